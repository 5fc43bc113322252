/- The depth of a value: what the walk counted, and the document's depth. -/
import Derived.Test.YtljgofmmihmmfaaDoorChkE
set_option linter.unusedSimpArgs false
set_option linter.unusedVariables false
namespace Go.Proofs.YtljgofmmihmmfaaDoor
open Go.RowKit Go.Lib

mutual
def dptV : V → Nat
  | .mk _ _ _ _ l m => max (dptL l) (dptM m)
def dptL : List V → Nat
  | [] => 0
  | x :: t => max (dptV x + 1) (dptL t)
def dptM : List Mem → Nat
  | [] => 0
  | (_, x) :: t => max (dptV x + 1) (dptM t)
end

theorem entF_eq {D n y d lv : Nat} {g : Bool} {z : Nat} (h : (entF D n y d lv g z).1 = 0) : (entF D n y d lv g z).2 = (n + 1, y + z, max d lv) := by
  unfold entF at *
  split at h
  · simp at h
  split at h
  · simp at h
  split at h
  · simp at h
  split at h
  · simp at h
  · rename_i h1 h2 h3 h4
    rw [if_neg h1, if_neg h2, if_neg h3, if_neg h4]

mutual
theorem chkV_dpt (D : Nat) : ∀ (v : V) (lv : Nat) (st : St), (chkV D v lv st).1 = 0 → (chkV D v lv st).2.2.2 = max st.2.2 (lv + dptV v)
  | .mk k b i s l m, lv, st, h => by
    rw [chkV] at h ⊢
    by_cases h1 : (entF D st.1 st.2.1 st.2.2 lv (goodB k b i s l.length m) (s.size + keyB m)).1 = 0
    · have b1 := entF_eq h1
      simp only [h1, if_true] at h ⊢
      generalize (entF D st.1 st.2.1 st.2.2 lv (goodB k b i s l.length m) (s.size + keyB m)).2 = q at *
      subst b1
      by_cases h2 : (chkL D l (lv + 1) (st.1 + 1, st.2.1 + (s.size + keyB m), max st.2.2 lv)).1 = 0
      · simp only [h2, if_true] at h ⊢
        have e1 := chkL_dpt D l lv _ h2 (by show lv ≤ max st.2.2 lv; omega)
        have e2 := chkM_dpt D m lv _ h (by rw [e1]; show lv ≤ _; simp only; omega)
        rw [e2, e1, dptV]; simp only; omega
      · simp only [h2, if_false] at h
    · simp only [h1, if_false] at h
theorem chkL_dpt (D : Nat) : ∀ (l : List V) (lv : Nat) (st : St), (chkL D l (lv + 1) st).1 = 0 → lv ≤ st.2.2 → (chkL D l (lv + 1) st).2.2.2 = max st.2.2 (lv + dptL l)
  | [], lv, st, h, hs => by rw [chkL, dptL]; simp only; omega
  | x :: t, lv, st, h, hs => by
    rw [chkL] at h ⊢
    by_cases h1 : (chkV D x (lv + 1) st).1 = 0
    · rw [if_pos h1] at h ⊢
      have e1 := chkV_dpt D x (lv + 1) st h1
      rw [chkL_dpt D t lv _ h (by rw [e1]; omega), e1, dptL]; omega
    · rw [if_neg h1] at h
      exact absurd h h1
theorem chkM_dpt (D : Nat) : ∀ (l : List Mem) (lv : Nat) (st : St), (chkM D l (lv + 1) st).1 = 0 → lv ≤ st.2.2 → (chkM D l (lv + 1) st).2.2.2 = max st.2.2 (lv + dptM l)
  | [], lv, st, h, hs => by rw [chkM, dptM]; simp only; omega
  | (_, x) :: t, lv, st, h, hs => by
    rw [chkM] at h ⊢
    by_cases h1 : (chkV D x (lv + 1) st).1 = 0
    · rw [if_pos h1] at h ⊢
      have e1 := chkV_dpt D x (lv + 1) st h1
      rw [chkM_dpt D t lv _ h (by rw [e1]; omega), e1, dptM]; omega
    · rw [if_neg h1] at h
      exact absurd h h1
end

mutual
theorem dptV_wt : ∀ v : V, dptV v < v.wt
  | .mk k b i s l m => by
    have h1 := dptL_wt l
    have h2 := dptM_wt m
    rw [dptV, V.wt]; omega
theorem dptL_wt : ∀ l : List V, dptL l ≤ wtL l
  | [] => by simp [dptL]
  | x :: t => by
    have h1 := dptV_wt x
    have h2 := dptL_wt t
    rw [dptL, wtL]; omega
theorem dptM_wt : ∀ l : List Mem, dptM l ≤ wtM l
  | [] => by simp [dptM]
  | (k, x) :: t => by
    have h1 := dptV_wt x
    have h2 := dptM_wt t
    rw [dptM, wtM]; omega
end
theorem dptL_take {l : List V} {j : Nat} (h : j < l.length) : dptL (l.take (j + 1)) = max (dptL (l.take j)) (dptV l[j] + 1) := by
  induction l generalizing j with
  | nil => simp at h
  | cons x t ih =>
    cases j with
    | zero => simp [dptL]
    | succ j =>
      have := ih (j := j) (by simpa using h)
      simp only [List.take_succ_cons, dptL, List.getElem_cons_succ, this]; omega
theorem dptM_take {l : List Mem} {j : Nat} (h : j < l.length) : dptM (l.take (j + 1)) = max (dptM (l.take j)) (dptV (l[j]).2 + 1) := by
  induction l generalizing j with
  | nil => simp at h
  | cons x t ih =>
    obtain ⟨k, x⟩ := x
    cases j with
    | zero => simp [dptM]
    | succ j =>
      have := ih (j := j) (by simpa using h)
      simp only [List.take_succ_cons, dptM, List.getElem_cons_succ, this]; omega

set_option maxHeartbeats 4000000 in
set_option maxRecDepth 100000 in
theorem rdepth_any (v : V) : ∀ (R : Bool) (S : Nat → Prop) (cs : List Value) (w : World), v.lies R w S cs → (∀ b, S b → b < w.heap.size) → v.wt ≤ 1099511627776 → Calls Tryd.prog 51 #[.agg cs.toArray] w (NPost (dptV v) w) := by
  induction v using V.ind_v with
  | h k b i s l m ihl ihm =>
  intro R S cs w hl hS hwt
  rw [V.lies] at hl
  obtain ⟨al, cl, bl, ol, am, cm, bm, om, rfl, hk, hi, hs, hal, ham, hl1, hm1, _⟩ := hl
  have HL : Hid (liesL R w S l bl ol) := hl1
  have HM : Hid (liesM R w S m bm om) := hm1
  clear hl1 hm1
  rw [V.wt] at hwt
  have hlm := wtL_len l
  have hmm := wtM_len m
  have hb0 := box_row w [.int .i64 k, .bool b, .int .i64 i, .string s, .slice al l.length cl, .slice am m.length cm] 25
  have hz0 := alloc_size w (.cells #[.int .i64 k, .bool b, .int .i64 i, .string s, .slice al l.length cl, .slice am m.length cm] 25)
  have B0 : Below w.heap.size w (w.alloc (.cells #[.int .i64 k, .bool b, .int .i64 i, .string s, .slice al l.length cl, .slice am m.length cm] 25)) := (Below.refl _ _).alloc (Nat.le_refl _) _
  have HWl : Hid (∀ x ∈ l, dptV x < 1099511627776 ∧ x.wt ≤ 1099511627776) := fun x hx => by have := dptV_wt x; have := wtL_mem hx; omega
  have HWm : Hid (∀ x ∈ m, dptV x.2 < 1099511627776 ∧ x.2.wt ≤ 1099511627776) := fun x hx => by have := dptV_wt x.2; have := wtM_mem hx; omega
  have IHL : Hid _ := ihl
  have IHM : Hid _ := ihm
  clear ihl ihm
  have hdL : ∀ j, dptL (l.take j) ≤ 1099511627776 := fun j => by
    have h1 := dptL_wt (l.take j)
    have h2 := wtL_app (l.take j) (l.drop j)
    rw [List.take_append_drop] at h2
    omega
  have hdM : ∀ j, dptM (m.take j) ≤ 1099511627776 := fun j => by
    have h1 := dptM_wt (m.take j)
    have h2 := wtM_app (m.take j) (m.drop j)
    rw [List.take_append_drop] at h2
    omega
  have HdL : Hid (∀ j, dptL (l.take j) ≤ 1099511627776) := hdL
  have HdM : Hid (∀ j, dptM (m.take j) ≤ 1099511627776) := hdM
  clear hdL hdM
  go_enter Tryd.func51, Tryd.ntmps51
  go_wp2_with fail
  generalize (w.alloc (.cells #[.int .i64 k, .bool b, .int .i64 i, .string s, .slice al l.length cl, .slice am m.length cm] 25)) = w0 at *
  go_loopw [3, 4] (fun e3 e4 wr => ∃ j a : Nat, j ≤ l.length ∧ e4 = .int .i64 (j : Int) ∧ e3 = .int .i64 ((a : Int) - 1) ∧ a = dptL (l.take j) ∧ Below w0.heap.size w0 wr) (fun _ e _ => l.length - (RowKit.intOf e).toNat)
  case atStart => exact ⟨0, 0, by omega, rfl, rfl, by simp [dptL], Below.refl _ _⟩
  case round =>
    obtain ⟨j, a, hj, rfl, rfl, ha, bj⟩ := hrel
    have hzr := bj.size
    have hba := HdL.out j
    rw [← ha] at hba
    obtain ⟨d0, d1, d2, d3, d4, d5⟩ := row6z (hb0.keep (bj.block _ (by omega)))
    have hkw : ∀ x, S x → wr.heap[x]? = w.heap[x]? := fun x hx => (bj.block x (by have := hS x hx; omega)).trans (B0.block x (hS x hx))
    by_cases hjl : j < l.length
    · have y1 : (j : Int) < l.length := by omega
      obtain ⟨hSb, csj, hrow, hlj⟩ := liesL_get HL.out j hjl
      obtain rfl : al = some ⟨bl, ol, none⟩ := hal.at_.resolve_left (by omega)
      have hlj' := V.lies_keep (R' := R) (S' := S) (fun h => h) hkw (fun _ h => h) _ hlj
      have hc1 := IHL.out l[j] (List.getElem_mem hjl) R S csj wr hlj' (fun x hx => by have := hS x hx; omega) (HWl.out l[j] (List.getElem_mem hjl)).2
      have HT := dptL_take hjl
      rw [← ha] at HT
      have hx := (HWl.out l[j] (List.getElem_mem hjl)).1
      generalize dptV l[j] = x at *
      obtain ⟨ek, eb, ei, es, eal, enl, ecl, eam, enm, ecm, rfl⟩ := V.ten hlj
      obtain ⟨q0, q1, q2, q3, q4, q5⟩ := row6 (hrow.keep (hkw _ hSb))
      clear hlj hlj' hrow ha
      go_wp2_with fail
      refine hc1.mono ?_
      rintro e w3 ⟨rfl, b3⟩
      by_cases hm : a < x + 1
      · have y2 : (x : Int) > (a : Int) - 1 := by omega
        go_wp2_with fail
        go_roundw
        case rel => exact ⟨j + 1, x + 1, by omega, by go_num, by go_num, by omega, bj.trans (b3.mono hzr)⟩
        case measure => simp [RowKit.intOf]; omega
      · have y2 : ¬ (x : Int) > (a : Int) - 1 := by omega
        go_wp2_with fail
        go_roundw
        case rel => exact ⟨j + 1, a, by omega, by go_num, rfl, by omega, bj.trans (b3.mono hzr)⟩
        case measure => simp [RowKit.intOf]; omega
    · obtain rfl : j = l.length := by omega
      rw [List.take_length] at ha
      have HA : Hid (a = dptL l) := ha
      clear ha
      have y1 : ¬ (l.length : Int) < l.length := by omega
      go_wp2_with fail
      go_loopw [3, 6] (fun e3 e6 wr => ∃ j a : Nat, j ≤ m.length ∧ e6 = .int .i64 (j : Int) ∧ e3 = .int .i64 ((a : Int) - 1) ∧ a = max (dptL l) (dptM (m.take j)) ∧ Below w0.heap.size w0 wr) (fun _ e _ => m.length - (RowKit.intOf e).toNat)
      case atStart => exact ⟨0, a, by omega, rfl, rfl, by have := HA.out; simp [dptM, this], bj⟩
      case round =>
        clear d0 d1 d2 d3 d4 d5 hkw hzr bj hba HA
        have hbl := HdL.out l.length
        rw [List.take_length] at hbl
        obtain ⟨j, a, hj, rfl, rfl, ha, bj⟩ := hrel
        have hzr := bj.size
        have hba : a ≤ 1099511627776 := by have := HdM.out j; omega
        obtain ⟨d0, d1, d2, d3, d4, d5⟩ := row6z (hb0.keep (bj.block _ (by omega)))
        have hkw : ∀ x, S x → wr.heap[x]? = w.heap[x]? := fun x hx => (bj.block x (by have := hS x hx; omega)).trans (B0.block x (hS x hx))
        by_cases hjl : j < m.length
        · have y1 : (j : Int) < m.length := by omega
          obtain ⟨hSb, hks, csj, hrow, hlj⟩ := liesM_get HM.out j hjl
          obtain rfl : am = some ⟨bm, om, none⟩ := ham.at_.resolve_left (by omega)
          have hlj' := V.lies_keep (R' := R) (S' := S) (fun h => h) hkw (fun _ h => h) _ hlj
          have hc1 := IHM.out m[j] (List.getElem_mem hjl) R S csj wr hlj' (fun x hx => by have := hS x hx; omega) (HWm.out m[j] (List.getElem_mem hjl)).2
          have HT := dptM_take hjl
          have hx := (HWm.out m[j] (List.getElem_mem hjl)).1
          generalize m[j] = mj at *
          generalize dptV mj.2 = x at *
          have HT2 : dptM (m.take (j + 1)) = max (dptM (m.take j)) (x + 1) := HT
          have HA : Hid (max a (x + 1) = max (dptL l) (dptM (m.take (j + 1)))) := by show _ = _; omega
          clear HT HT2 ha
          obtain ⟨ek, eb, ei, es, eal, enl, ecl, eam, enm, ecm, rfl⟩ := V.ten hlj
          obtain ⟨q, q0, q1, q2, q3, q4, q5⟩ := row7 (hrow.keep (hkw _ hSb))
          clear hlj hlj' hrow
          go_wp2_with fail
          refine hc1.mono ?_
          rintro e w3 ⟨rfl, b3⟩
          by_cases hm : a < x + 1
          · have y2 : (x : Int) > (a : Int) - 1 := by omega
            go_wp2_with fail
            go_roundw
            case rel => exact ⟨j + 1, x + 1, by omega, by go_num, by go_num, by have := HA.out; omega, bj.trans (b3.mono hzr)⟩
            case measure => simp [RowKit.intOf]; omega
          · have y2 : ¬ (x : Int) > (a : Int) - 1 := by omega
            go_wp2_with fail
            go_roundw
            case rel => exact ⟨j + 1, a, by omega, by go_num, rfl, by have := HA.out; omega, bj.trans (b3.mono hzr)⟩
            case measure => simp [RowKit.intOf]; omega
        · obtain rfl : j = m.length := by omega
          rw [List.take_length] at ha
          have HA : Hid (a = dptV (V.mk k b i s l m)) := by show _ = _; rw [dptV]; exact ha
          clear ha
          have y1 : ¬ (m.length : Int) < m.length := by omega
          have hw1 : IntKind.i64.wrap ((a : Int) - 1 + 1) = (a : Int) := by rw [IntKind.wrap_i64]; omega
          go_wp2_with fail
          go_ret
          exact ⟨by rw [← HA.out]; rfl, B0.trans (bj.mono (by omega))⟩
end Go.Proofs.YtljgofmmihmmfaaDoor
