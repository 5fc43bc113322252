import Derived.Test.YtaecmgkckefgoaaDoorRisA
/- Is: the function that is handed on, ContainsFunc. -/
set_option linter.unusedSimpArgs false
set_option linter.unusedVariables false
namespace Go.Proofs.YtaecmgkckefgoaaDoor
open Go.RowKit Go.Lib
theorem ord_kind : ∀ {x v : V}, ordV x v = 0 → kindOf x = kindOf v
  | .mk k b i s l m, .mk k' b' i' s' l' m', h => by
    show k = k'
    rw [ordV] at h
    by_cases e : k = k'
    · exact e
    · exfalso
      rw [if_neg e] at h
      unfold cmpI at h
      split at h
      · omega
      · split at h <;> omega
theorem eql_kind {x v : V} (h : kindOf x ≠ kindOf v) : eqlV x v = false := by
  cases he : eqlV x v
  · rfl
  · exfalso
    simp only [eqlV, Bool.and_eq_true, decide_eq_true_eq] at he
    exact h (ord_kind he.2.2)
theorem kind_cell {R : Bool} {w : World} {S : Nat → Prop} {v : V} {k : Int} {r : List Value} (h : v.lies R w S (.int .i64 k :: r)) : kindOf v = k := by
  obtain ⟨k', b, i, s, l, m⟩ := v
  rw [V.lies] at h
  obtain ⟨al, cl, bl, ol, am, cm, bm, om, e, _⟩ := h
  simp only [List.cons.injEq, Value.int.injEq, true_and] at e
  exact e.1.symm
set_option maxHeartbeats 1600000 in
set_option maxRecDepth 100000 in
theorem isx_any (x v : V) (P : Nat) (S S' : Nat → Prop) (cs ds : List Value) (w : World) (tb : Tb w) (hx : x.lies false w S cs) (hv : v.lies false w S' ds) (hP : rowAt w P 0 ds) (hS : ∀ b, S b → b < w.heap.size) (hS' : ∀ b, S' b → b < w.heap.size) (hwx : x.wt ≤ 1099511627776) (hwt : v.wt ≤ 1099511627776) :
    Calls Tryd.prog 19 #[.agg cs.toArray, .pointer (some ⟨P, 0, none⟩)] w (BPost (eqlV x v) w) := by
  obtain ⟨ek, eb, ei, es, eal, enl, ecl, eam, enm, ecm, rfl⟩ := V.ten hx
  obtain ⟨vk, vb, vi, vs, val, vnl, vcl, vam, vnm, vcm, rfl⟩ := V.ten hv
  have HX := hmk (kind_cell hx)
  have HV := hmk (kind_cell hv)
  have hPl : P < w.heap.size := World.block_lt_of_cell? w _ (row6z hP).1
  have b1 : Below w.heap.size w (w.alloc (.cells #[.int .i64 ek, .bool eb, .int .i64 ei, .string es, .slice eal enl ecl, .slice eam enm ecm] 29)) := (Below.refl _ _).alloc (Nat.le_refl _) _
  obtain ⟨d0, d1, d2, d3, d4, d5⟩ := row6z (box_row w [.int .i64 ek, .bool eb, .int .i64 ei, .string es, .slice eal enl ecl, .slice eam enm ecm] 29)
  obtain ⟨f0, f1, f2, f3, f4, f5⟩ := row6z (hP.keep (b1.block P hPl))
  have c := hmk (equal_any x v false false S S' _ _ (w.alloc (.cells #[.int .i64 ek, .bool eb, .int .i64 ei, .string es, .slice eal enl ecl, .slice eam enm ecm] 29)) (tb.below b1 tb.z) (V.lies_keep (fun h => h) (fun y hy => b1.block y (hS y hy)) (fun _ h => h) _ hx) (V.lies_keep (fun h => h) (fun y hy => b1.block y (hS' y hy)) (fun _ h => h) _ hv) (fun y hy => Nat.lt_of_lt_of_le (hS y hy) b1.size) (fun y hy => Nat.lt_of_lt_of_le (hS' y hy) b1.size) hwx hwt)
  have HB := hmk b1
  clear hx hv hP b1 hS hS'
  by_cases he : ek = vk
  · subst he
    go_enter Tryd.func19, Tryd.ntmps19
    go_wp2_with fail
    refine c.out.mono ?_
    rintro e w1 ⟨rfl, g1⟩
    go_wp2_with fail
    go_ret
    exact ⟨rfl, HB.out.trans (g1.mono HB.out.size)⟩
  · have y1 : (ek == vk) = false := beq_eq_false_iff_ne.2 he
    have HN : Hid (eqlV x v = false) := eql_kind (by rw [HX.out, HV.out]; exact he)
    go_enter Tryd.func19, Tryd.ntmps19
    go_wp2_with fail
    go_ret
    exact ⟨by rw [HN.out]; rfl, HB.out⟩
def IxPost (r : Bool) (w : World) (e : Ending) (w' : World) : Prop := ∃ i : Int, e = .returned (.int .i64 i) ∧ decide (0 ≤ i) = r ∧ Below w.heap.size w w'
set_option maxHeartbeats 1600000 in
set_option maxRecDepth 100000 in
theorem indexf_any (E : List V) (v : V) (P : Nat) (S S' : Nat → Prop) (ae : Option Addr) (ce be qe : Nat) (ds : List Value) (w : World) (tb : Tb w) (hae : Headed ae E.length ce be qe) (hE : liesL false w S E be qe) (hv : v.lies false w S' ds) (hP : rowAt w P 0 ds) (hS : ∀ b, S b → b < w.heap.size) (hS' : ∀ b, S' b → b < w.heap.size) (hwe : wtL E ≤ 2147483647) (hwt : v.wt ≤ 1099511627776) :
    Calls Tryd.prog 27 #[.slice ae E.length ce, .func (.func 19) #[] #[.pointer (some ⟨P, 0, none⟩)]] w (IxPost (inV E v) w) := by
  have HE := hmk hE
  have HV := hmk hv
  have HP := hmk hP
  have HS := hmk hS
  have HS' := hmk hS'
  have hle : E.length ≤ 9223372036854775807 := Nat.le_trans hae.le hae.max
  have HPl : Hid (P < w.heap.size) := by
    obtain ⟨vk, vb, vi, vs, val, vnl, vcl, vam, vnm, vcm, rfl⟩ := V.ten hv
    exact World.block_lt_of_cell? w _ (row6z hP).1
  clear hE hv hP hS hS'
  go_enter Tryd.func27, Tryd.ntmps27
  go_wp2_with fail
  go_loopw [8] (fun e wr => ∃ j : Nat, j ≤ E.length ∧ e = .int .i64 (j : Int) ∧ Below w.heap.size w wr ∧ Hid (inV E v = inV (E.drop j) v)) (fun e _ => E.length - (RowKit.intOf e).toNat)
  case atStart => exact ⟨0, by omega, rfl, Below.refl _ _, rfl⟩
  case round =>
    obtain ⟨j, hj, rfl, bj, HJ⟩ := hrel
    have hzr := bj.size
    by_cases hjl : j < E.length
    · have y3 : (j : Int) < E.length := by omega
      obtain ⟨hSb, csj, hrow, hlj⟩ := liesL_get HE.out j hjl
      obtain rfl : ae = some ⟨be, qe, none⟩ := hae.at_.resolve_left (by omega)
      have hk0 : ∀ x, S x → wr.heap[x]? = w.heap[x]? := fun x hx => bj.block x (HS.out x hx)
      have hwj : (E[j]).wt ≤ 1099511627776 := by have := wtL_mem (List.getElem_mem hjl); omega
      have c := hmk (isx_any E[j] v P S S' csj ds wr (tb.below bj tb.z) (V.lies_keep (fun h => h) hk0 (fun _ h => h) _ hlj) (V.lies_keep (fun h => h) (fun x hx => bj.block x (HS'.out x hx)) (fun _ h => h) _ HV.out) (HP.out.keep (bj.block P HPl.out)) (fun x hx => Nat.lt_of_lt_of_le (HS.out x hx) hzr) (fun x hx => Nat.lt_of_lt_of_le (HS'.out x hx) hzr) hwj hwt)
      have HD : Hid (inV E v = (eqlV E[j] v || inV (E.drop (j + 1)) v)) := by show _ = _; rw [HJ.out, inV_drop hjl]
      obtain ⟨ek, eb, ei, es, eal, enl, ecl, eam, enm, ecm, rfl⟩ := V.ten hlj
      obtain ⟨q0, q1, q2, q3, q4, q5⟩ := row6 (hrow.keep (hk0 _ hSb))
      generalize eqlV E[j] v = Z at *
      clear hlj hrow hk0 hwj HJ
      go_wp2_with fail
      refine c.out.mono ?_
      rintro e w1 ⟨rfl, b1⟩
      have b2 := bj.trans (b1.mono hzr)
      cases Z
      · have HF : Hid (inV E v = inV (E.drop (j + 1)) v) := by show _ = _; rw [HD.out]; rfl
        go_wp2_with fail
        go_roundw
        case rel => exact ⟨j + 1, by omega, by go_num, b2, HF⟩
        case measure => simp [RowKit.intOf]; omega
      · have HF : Hid (inV E v = true) := by show _ = _; rw [HD.out]; rfl
        go_wp2_with fail
        go_ret
        exact ⟨(j : Int), rfl, by rw [HF.out]; exact decide_eq_true (by omega), b2⟩
    · obtain rfl : j = E.length := by omega
      have y3 : ¬ (E.length : Int) < E.length := by omega
      have HF : Hid (inV E v = false) := by show _ = _; rw [HJ.out, List.drop_length]; rfl
      go_wp2_with fail
      go_ret
      exact ⟨-1, rfl, by rw [HF.out]; rfl, bj⟩
set_option maxHeartbeats 1600000 in
set_option maxRecDepth 100000 in
theorem containsf_any (E : List V) (v : V) (P : Nat) (S S' : Nat → Prop) (ae : Option Addr) (ce be qe : Nat) (ds : List Value) (w : World) (tb : Tb w) (hae : Headed ae E.length ce be qe) (hE : liesL false w S E be qe) (hv : v.lies false w S' ds) (hP : rowAt w P 0 ds) (hS : ∀ b, S b → b < w.heap.size) (hS' : ∀ b, S' b → b < w.heap.size) (hwe : wtL E ≤ 2147483647) (hwt : v.wt ≤ 1099511627776) :
    Calls Tryd.prog 18 #[.slice ae E.length ce, .func (.func 19) #[] #[.pointer (some ⟨P, 0, none⟩)]] w (BPost (inV E v) w) := by
  have c := hmk (indexf_any E v P S S' ae ce be qe ds w tb hae hE hv hP hS hS' hwe hwt)
  clear hE hv hP
  go_enter Tryd.func18, Tryd.ntmps18
  go_wp2_with fail
  refine c.out.mono ?_
  rintro e w1 ⟨i, rfl, hi, b1⟩
  have HI := hmk hi
  clear hi
  go_wp2_with fail
  go_ret
  exact ⟨by rw [← HI.out]; rfl, b1⟩
end Go.Proofs.YtaecmgkckefgoaaDoor
