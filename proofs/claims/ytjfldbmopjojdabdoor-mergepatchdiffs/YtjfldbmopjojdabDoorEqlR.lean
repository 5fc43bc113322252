import Derived.Test.YtjfldbmopjojdabDoorG28
set_option linter.unusedSimpArgs false
set_option linter.unusedVariables false
namespace Go.Proofs.YtjfldbmopjojdabDoor
open Go.RowKit Go.Lib Go.ChangeShapes Go.WideShapes Go.Deep
mutual
def frsV : V → V → Int
 | .mk k b i s l m, .mk k' b' i' s' l' m' =>
  if k = k' then
   if b = b' then
    if i = i' then
     if s.toList = s'.toList then
      if frsL l l' = 0 then frsM m m' else frsL l l'
     else cmpT s s'
    else cmpI i i'
   else cmpB b b'
  else cmpI k k'
def frsL : List V → List V → Int
 | [], [] => 0
 | [], _ :: _ => -1
 | _ :: _, [] => 1
 | x :: t, y :: u => if frsV x y = 0 then frsL t u else frsV x y
def frsM : List Mem → List Mem → Int
 | [], [] => 0
 | [], _ :: _ => -1
 | _ :: _, [] => 1
 | (k, x) :: t, (k', y) :: u => if cmpT k k' = 0 then (if frsV x y = 0 then frsM t u else frsV x y) else cmpT k k'
end
theorem frsL_drop {l l' : List V} {j : Nat} (h : j < l.length) (h' : j < l'.length) : frsL (l.drop j) (l'.drop j) = if frsV l[j] l'[j] = 0 then frsL (l.drop (j + 1)) (l'.drop (j + 1)) else frsV l[j] l'[j] := by
 rw [List.drop_eq_getElem_cons h, List.drop_eq_getElem_cons h', frsL]
theorem frsM_drop {l l' : List Mem} {j : Nat} (h : j < l.length) (h' : j < l'.length) : frsM (l.drop j) (l'.drop j) = if cmpT (l[j]).1 (l'[j]).1 = 0 then (if frsV (l[j]).2 (l'[j]).2 = 0 then frsM (l.drop (j + 1)) (l'.drop (j + 1)) else frsV (l[j]).2 (l'[j]).2) else cmpT (l[j]).1 (l'[j]).1 := by
 rw [List.drop_eq_getElem_cons h, List.drop_eq_getElem_cons h']
 cases l[j]; cases l'[j]; rw [frsM]
theorem frsL_end {l l' : List V} {j : Nat} (h : j ≤ l.length) (h' : j ≤ l'.length) (he : j = l.length ∨ j = l'.length) : frsL (l.drop j) (l'.drop j) = cmpI l.length l'.length := by
 by_cases h1 : j < l.length
 ·have e : l'.drop j = [] := List.drop_eq_nil_of_le (by omega)
  rw [e, List.drop_eq_getElem_cons h1, frsL, cmpI, if_neg (by omega), if_pos (by omega)]
 ·have e : l.drop j = [] := List.drop_eq_nil_of_le (by omega)
  rw [e]
  by_cases h2 : j < l'.length
  ·rw [List.drop_eq_getElem_cons h2, frsL, cmpI, if_pos (by omega)]
  ·have e : l'.drop j = [] := List.drop_eq_nil_of_le (by omega)
   rw [e, frsL, cmpI, if_neg (by omega), if_neg (by omega)]
theorem frsM_end {l l' : List Mem} {j : Nat} (h : j ≤ l.length) (h' : j ≤ l'.length) (he : j = l.length ∨ j = l'.length) : frsM (l.drop j) (l'.drop j) = cmpI l.length l'.length := by
 by_cases h1 : j < l.length
 ·have e : l'.drop j = [] := List.drop_eq_nil_of_le (by omega)
  rw [e, List.drop_eq_getElem_cons h1]
  cases l[j]; rw [frsM, cmpI, if_neg (by omega), if_pos (by omega)]
 ·have e : l.drop j = [] := List.drop_eq_nil_of_le (by omega)
  rw [e]
  by_cases h2 : j < l'.length
  ·rw [List.drop_eq_getElem_cons h2, frsM, cmpI, if_pos (by omega)]
  ·have e : l'.drop j = [] := List.drop_eq_nil_of_le (by omega)
   rw [e, frsM, cmpI, if_neg (by omega), if_neg (by omega)]
theorem cmpI_ne {a b : Int} (h : a ≠ b) : cmpI a b ≠ 0 := by
 unfold cmpI
 split
 ·decide
 ·split
  ·decide
  ·omega
theorem ofints_any (a b : Int) (w : World) : Calls Tryd.prog 48 #[.int .i64 a, .int .i64 b] w (JPost (cmpI a b) w) := by
 by_cases h1 : a < b
 ·have HF : Hid (cmpI a b = -1) := by show _ = _; simp [cmpI, h1]
  go_enter Tryd.func48, Tryd.ntmps48
  go_wp2_with fail
  go_ret
  rw [HF.out]
  exact ⟨rfl, Below.refl _ _⟩
 ·by_cases h2 : b < a
  ·have HF : Hid (cmpI a b = 1) := by show _ = _; simp [cmpI, h1, h2]
   have y2 : a > b := h2
   go_enter Tryd.func48, Tryd.ntmps48
   go_wp2_with fail
   go_ret
   rw [HF.out]
   exact ⟨rfl, Below.refl _ _⟩
  ·have HF : Hid (cmpI a b = 0) := by show _ = _; simp [cmpI, h1, h2]
   have y2 : ¬ a > b := h2
   go_enter Tryd.func48, Tryd.ntmps48
   go_wp2_with fail
   go_ret
   rw [HF.out]
   exact ⟨rfl, Below.refl _ _⟩
theorem oftexts_any (a b : ByteArray) (w : World) : Calls Tryd.prog 49 #[.string a, .string b] w (JPost (cmpT a b) w) := by
 cases h1 : Op.bytesLess a.toList b.toList
 ·by_cases h2 : a.toList = b.toList
  ·have HF : Hid (cmpT a b = 0) := by show _ = _; rw [cmpT, ltB, if_neg (by simp [h1]), if_pos h2]
   have yK : (a.toList == b.toList) = true := by rw [beq_iff_eq]; exact h2
   clear h2
   go_enter Tryd.func49, Tryd.ntmps49
   go_wp2_with fail
   go_ret
   rw [HF.out]
   exact ⟨rfl, Below.refl _ _⟩
  ·have HF : Hid (cmpT a b = 1) := by show _ = _; simp [cmpT, ltB, h1, h2]
   have yK : (a.toList == b.toList) = false := by rw [beq_eq_false_iff_ne]; exact h2
   clear h2
   go_enter Tryd.func49, Tryd.ntmps49
   go_wp2_with fail
   go_ret
   rw [HF.out]
   exact ⟨rfl, Below.refl _ _⟩
 ·have HF : Hid (cmpT a b = -1) := by show _ = _; simp [cmpT, ltB, h1]
  go_enter Tryd.func49, Tryd.ntmps49
  go_wp2_with fail
  go_ret
  rw [HF.out]
  exact ⟨rfl, Below.refl _ _⟩
set_option maxHeartbeats 8000000 in
set_option maxRecDepth 100000 in
theorem first_any (v : V) : ∀ (u : V) (R R' : Bool) (S S' : Nat → Prop) (cs cs' : List Value) (w : World), v.lies R w S cs → u.lies R' w S' cs' → (∀ b, S b → b < w.heap.size) → (∀ b, S' b → b < w.heap.size) →
 Calls Tryd.prog 41 #[.agg cs.toArray, .agg cs'.toArray] w (JPost (frsV v u) w) := by
 induction v using V.ind_v with
 | h k b i s l m ihl ihm =>
 intro u R R' S S' cs cs' w hv hu hS hS'
 obtain ⟨k', b', i', s', l', m'⟩ := u
 rw [V.lies] at hv hu
 obtain ⟨al, cl, bl, ol, am, cm, bm, om, rfl, hk, hi, hs, hal, ham, hl1, hm1, _⟩ := hv
 obtain ⟨al', cl', bl', ol', am', cm', bm', om', rfl, hk', hi', hs', hal', ham', hl1', hm1', _⟩ := hu
 have hz1 := alloc_size w (.cells #[.int .i64 k, .bool b, .int .i64 i, .string s, .slice al l.length cl, .slice am m.length cm] 25)
 have hz2 : ((w.alloc (.cells #[.int .i64 k, .bool b, .int .i64 i, .string s, .slice al l.length cl, .slice am m.length cm] 25)).alloc (.cells #[.int .i64 k', .bool b', .int .i64 i', .string s', .slice al' l'.length cl', .slice am' m'.length cm'] 25)).heap.size = w.heap.size + 2 := by rw [alloc_size, alloc_size]
 have B2 : Below w.heap.size w ((w.alloc (.cells #[.int .i64 k, .bool b, .int .i64 i, .string s, .slice al l.length cl, .slice am m.length cm] 25)).alloc (.cells #[.int .i64 k', .bool b', .int .i64 i', .string s', .slice al' l'.length cl', .slice am' m'.length cm'] 25)) := ((Below.refl _ _).alloc (Nat.le_refl _) _).alloc (by omega) _
 have hbA : rowAt ((w.alloc (.cells #[.int .i64 k, .bool b, .int .i64 i, .string s, .slice al l.length cl, .slice am m.length cm] 25)).alloc (.cells #[.int .i64 k', .bool b', .int .i64 i', .string s', .slice al' l'.length cl', .slice am' m'.length cm'] 25)) w.heap.size 0 [.int .i64 k, .bool b, .int .i64 i, .string s, .slice al l.length cl, .slice am m.length cm] := (box_row w [.int .i64 k, .bool b, .int .i64 i, .string s, .slice al l.length cl, .slice am m.length cm] 25).keep (Below.heap_alloc (w.alloc (.cells #[.int .i64 k, .bool b, .int .i64 i, .string s, .slice al l.length cl, .slice am m.length cm] 25)) (.cells #[.int .i64 k', .bool b', .int .i64 i', .string s', .slice al' l'.length cl', .slice am' m'.length cm'] 25) w.heap.size (by omega))
 have hbB : rowAt ((w.alloc (.cells #[.int .i64 k, .bool b, .int .i64 i, .string s, .slice al l.length cl, .slice am m.length cm] 25)).alloc (.cells #[.int .i64 k', .bool b', .int .i64 i', .string s', .slice al' l'.length cl', .slice am' m'.length cm'] 25)) (w.heap.size + 1) 0 [.int .i64 k', .bool b', .int .i64 i', .string s', .slice al' l'.length cl', .slice am' m'.length cm'] := by
  have h := box_row (w.alloc (.cells #[.int .i64 k, .bool b, .int .i64 i, .string s, .slice al l.length cl, .slice am m.length cm] 25)) [.int .i64 k', .bool b', .int .i64 i', .string s', .slice al' l'.length cl', .slice am' m'.length cm'] 25
  rw [hz1] at h
  exact h
 obtain ⟨d0, d1, d2, d3, d4, d5⟩ := row6z hbA
 have IHL : Hid _ := ihl
 have IHM : Hid _ := ihm
 have HL : Hid (liesL R w S l bl ol) := hl1
 have HL' : Hid (liesL R' w S' l' bl' ol') := hl1'
 have HM : Hid (liesM R w S m bm om) := hm1
 have HM' : Hid (liesM R' w S' m' bm' om') := hm1'
 clear ihl ihm hl1 hl1' hm1 hm1'
 by_cases hkk : k = k'
 case neg =>
  have HF : Hid (frsV (V.mk k b i s l m) (V.mk k' b' i' s' l' m') = cmpI k k') := by show _ = _; simp [frsV, hkk]
  have hc := ofints_any k k' ((w.alloc (.cells #[.int .i64 k, .bool b, .int .i64 i, .string s, .slice al l.length cl, .slice am m.length cm] 25)).alloc (.cells #[.int .i64 k', .bool b', .int .i64 i', .string s', .slice al' l'.length cl', .slice am' m'.length cm'] 25))
  generalize cmpI k k' = c at *
  go_enter Tryd.func41, Tryd.ntmps41
  go_wp2_with fail
  refine hc.mono ?_
  rintro e w3 ⟨rfl, b3⟩
  go_wp2_with fail
  go_ret
  rw [HF.out]
  exact ⟨rfl, B2.trans (b3.mono (by omega))⟩
 subst hkk
 by_cases hbb : b = b'
 case neg =>
  cases b <;> cases b'
  ·exact absurd rfl hbb
  ·go_enter Tryd.func41, Tryd.ntmps41
   go_wp2_with fail
   go_ret
   exact ⟨by simp [frsV, cmpB], B2⟩
  ·go_enter Tryd.func41, Tryd.ntmps41
   go_wp2_with fail
   go_ret
   exact ⟨by simp [frsV, cmpB], B2⟩
  ·exact absurd rfl hbb
 subst hbb
 by_cases hii : i = i'
 case neg =>
  have HF : Hid (frsV (V.mk k b i s l m) (V.mk k b i' s' l' m') = cmpI i i') := by show _ = _; simp [frsV, hii]
  have hc := ofints_any i i' ((w.alloc (.cells #[.int .i64 k, .bool b, .int .i64 i, .string s, .slice al l.length cl, .slice am m.length cm] 25)).alloc (.cells #[.int .i64 k, .bool b, .int .i64 i', .string s', .slice al' l'.length cl', .slice am' m'.length cm'] 25))
  generalize cmpI i i' = c at *
  go_enter Tryd.func41, Tryd.ntmps41
  go_wp2_with fail
  refine hc.mono ?_
  rintro e w3 ⟨rfl, b3⟩
  go_wp2_with fail
  go_ret
  rw [HF.out]
  exact ⟨rfl, B2.trans (b3.mono (by omega))⟩
 subst hii
 by_cases hss : s.toList = s'.toList
 case neg =>
  have HF : Hid (frsV (V.mk k b i s l m) (V.mk k b i s' l' m') = cmpT s s') := by show _ = _; simp [frsV, hss]
  have hc := oftexts_any s s' ((w.alloc (.cells #[.int .i64 k, .bool b, .int .i64 i, .string s, .slice al l.length cl, .slice am m.length cm] 25)).alloc (.cells #[.int .i64 k, .bool b, .int .i64 i, .string s', .slice al' l'.length cl', .slice am' m'.length cm'] 25))
  have yK : (s.toList == s'.toList) = false := by rw [beq_eq_false_iff_ne]; exact hss
  generalize cmpT s s' = c at *
  go_enter Tryd.func41, Tryd.ntmps41
  go_wp2_with fail
  refine hc.mono ?_
  rintro e w3 ⟨rfl, b3⟩
  go_wp2_with fail
  go_ret
  rw [HF.out]
  exact ⟨rfl, B2.trans (b3.mono (by omega))⟩
 have yK : (s.toList == s'.toList) = true := by rw [beq_iff_eq]; exact hss
 have HF : Hid (frsV (V.mk k b i s l m) (V.mk k b i s' l' m') = if frsL l l' = 0 then frsM m m' else frsL l l') := by show _ = _; simp [frsV, hss]
 clear hss
 have hm1 : l.length ≤ 9223372036854775807 := Nat.le_trans hal.le hal.max
 have hm2 : l'.length ≤ 9223372036854775807 := Nat.le_trans hal'.le hal'.max
 have hm3 : m.length ≤ 9223372036854775807 := Nat.le_trans ham.le ham.max
 have hm4 : m'.length ≤ 9223372036854775807 := Nat.le_trans ham'.le ham'.max
 go_enter Tryd.func41, Tryd.ntmps41
 go_wp2_with fail
 clear d0 d1 d2 d3 d4 d5 yK
 generalize ((w.alloc (.cells #[.int .i64 k, .bool b, .int .i64 i, .string s, .slice al l.length cl, .slice am m.length cm] 25)).alloc (.cells #[.int .i64 k, .bool b, .int .i64 i, .string s', .slice al' l'.length cl', .slice am' m'.length cm'] 25)) = w0 at *
 go_loopw [5] (fun e wr => ∃ j : Nat, j ≤ l.length ∧ j ≤ l'.length ∧ e = .int .i64 (j : Int) ∧ Hid (frsL l l' = frsL (l.drop j) (l'.drop j)) ∧ Below w0.heap.size w0 wr) (fun e _ => l.length - (RowKit.intOf e).toNat)
 case atStart => exact ⟨0, by omega, by omega, rfl, rfl, Below.refl _ _⟩
 case round =>
  obtain ⟨j, hj, hj', rfl, HD, bj⟩ := hrel
  have hzr := bj.size
  obtain ⟨d0, d1, d2, d3, d4, d5⟩ := row6z (hbA.keep (bj.block _ (by omega)))
  obtain ⟨f0, f1, f2, f3, f4, f5⟩ := row6z (hbB.keep (bj.block _ (by omega)))
  have hkw : ∀ x, S x → wr.heap[x]? = w.heap[x]? := fun x hx => (bj.block x (by have := hS x hx; omega)).trans (B2.block x (hS x hx))
  have hkw' : ∀ x, S' x → wr.heap[x]? = w.heap[x]? := fun x hx => (bj.block x (by have := hS' x hx; omega)).trans (B2.block x (hS' x hx))
  by_cases hjl : j < l.length ∧ j < l'.length
  ·have y1 : (j : Int) < l.length := by omega
   have y2 : (j : Int) < l'.length := by omega
   obtain ⟨hSb, csj, hrow, hlj⟩ := liesL_get HL.out j hjl.1
   obtain ⟨hSb', csj', hrow', hlj'⟩ := liesL_get HL'.out j hjl.2
   obtain rfl : al = some ⟨bl, ol, none⟩ := hal.at_.resolve_left (by omega)
   obtain rfl : al' = some ⟨bl', ol', none⟩ := hal'.at_.resolve_left (by omega)
   have hc : ∀ W, Below wr.heap.size wr W → Calls Tryd.prog 41 #[.agg csj.toArray, .agg csj'.toArray] W (JPost (frsV l[j] l'[j]) W) := fun W hb =>
    IHL.out l[j] (List.getElem_mem hjl.1) l'[j] R R' S S' csj csj' W (V.lies_keep (fun h => h) (fun x hx => (hb.block x (by have := hS x hx; omega)).trans (hkw x hx)) (fun _ h => h) _ hlj) (V.lies_keep (fun h => h) (fun x hx => (hb.block x (by have := hS' x hx; omega)).trans (hkw' x hx)) (fun _ h => h) _ hlj') (fun x hx => by have := hS x hx; have := hb.size; omega) (fun x hx => by have := hS' x hx; have := hb.size; omega)
   obtain ⟨ek, eb, ei, es, eal, enl, ecl, eam, enm, ecm, rfl⟩ := V.ten hlj
   obtain ⟨fk, fb, fi, fs, fal, fnl, fcl, fam, fnm, fcm, rfl⟩ := V.ten hlj'
   obtain ⟨q0, q1, q2, q3, q4, q5⟩ := row6 (hrow.keep (hkw _ hSb))
   obtain ⟨p0, p1, p2, p3, p4, p5⟩ := row6 (hrow'.keep (hkw' _ hSb'))
   have hbl : bl < wr.heap.size := World.block_lt_of_cell? wr _ q0
   have hbl' : bl' < wr.heap.size := World.block_lt_of_cell? wr _ p0
   have HX := frsL_drop hjl.1 hjl.2
   generalize frsV l[j] l'[j] = c at *
   have CF : Hid (∀ x : Sub wr.heap.size wr, Calls Tryd.prog 41 #[.agg #[.int .i64 ek, .bool eb, .int .i64 ei, .string es, .slice eal enl ecl, .slice eam enm ecm], .agg #[.int .i64 fk, .bool fb, .int .i64 fi, .string fs, .slice fal fnl fcl, .slice fam fnm fcm]] x.w fun e w'' => e = .returned (.int .i64 c) ∧ ∃ y : Sub wr.heap.size wr, w'' = y.w) := sub_call fun W hb => (hc W hb).mono fun e w'' h => ⟨h.1, hb.trans (h.2.mono hb.size)⟩
   have x4 : ∀ x : Sub wr.heap.size wr, _ := sub_cell d4 (by omega)
   have z4 : ∀ x : Sub wr.heap.size wr, _ := sub_cell f4 (by omega)
   have a0 : ∀ x : Sub wr.heap.size wr, _ := sub_cell q0 hbl
   have c0 : ∀ x : Sub wr.heap.size wr, _ := sub_cell p0 hbl'
   have a1 : ∀ x : Sub wr.heap.size wr, _ := sub_cell q1 hbl
   have c1 : ∀ x : Sub wr.heap.size wr, _ := sub_cell p1 hbl'
   have a2 : ∀ x : Sub wr.heap.size wr, _ := sub_cell q2 hbl
   have c2 : ∀ x : Sub wr.heap.size wr, _ := sub_cell p2 hbl'
   have a3 : ∀ x : Sub wr.heap.size wr, _ := sub_cell q3 hbl
   have c3 : ∀ x : Sub wr.heap.size wr, _ := sub_cell p3 hbl'
   have a4 : ∀ x : Sub wr.heap.size wr, _ := sub_cell q4 hbl
   have c4 : ∀ x : Sub wr.heap.size wr, _ := sub_cell p4 hbl'
   have a5 : ∀ x : Sub wr.heap.size wr, _ := sub_cell q5 hbl
   have c5 : ∀ x : Sub wr.heap.size wr, _ := sub_cell p5 hbl'
   clear hlj hlj' hrow hrow' hkw hkw' hc q0 q1 q2 q3 q4 q5 p0 p1 p2 p3 p4 p5
   go_wp2_with fail
   refine wp_region_sub wr.heap.size (by kernel_rfl) (by kernel_rfl) ?_
   repeat (go_big_quiet_step (exact CF.out _))
   refine wpQuiet_nil ?_
   rintro _ ⟨⟨wq, bq⟩, rfl⟩
   have Bq := bj.trans (bq.mono hzr)
   clear a0 a1 a2 a3 a4 a5 c0 c1 c2 c3 c4 c5 x4 z4 CF
   by_cases hc0 : c = 0
   ·subst hc0
    have HD2 : Hid (frsL l l' = frsL (l.drop (j + 1)) (l'.drop (j + 1))) := by show _ = _; rw [HD.out, HX, if_pos rfl]
    clear HX HD
    go_wp2_with fail
    go_roundw
    case rel => exact ⟨j + 1, by omega, by omega, by go_num, HD2.out, Bq⟩
    case measure => simp [RowKit.intOf]; omega
   ·have HD2 : Hid (frsV (V.mk k b i s l m) (V.mk k b i s' l' m') = c) := by show _ = _; rw [HF.out, HD.out, HX, if_neg hc0, if_neg hc0]
    clear HX HD
    go_wp2_with fail
    go_ret
    rw [HD2.out]
    exact ⟨rfl, B2.trans (Bq.mono (by omega))⟩
  ·have HE : Hid (frsL l l' = cmpI l.length l'.length) := by show _ = _; rw [HD.out, frsL_end hj hj' (by omega)]
   clear HD
   by_cases hll : l.length = l'.length
   ·have HZ : Hid (frsV (V.mk k b i s l m) (V.mk k b i s' l' m') = frsM m m') := by show _ = _; rw [HF.out, HE.out, hll, cmpI]; simp
    have y3 : (l.length : Int) = l'.length := by omega
    have y1 : ¬ (j : Int) < l.length := by omega
    clear HE
    go_wp2_with fail
    go_loopw [7] (fun e wr => ∃ j : Nat, j ≤ m.length ∧ j ≤ m'.length ∧ e = .int .i64 (j : Int) ∧ Hid (frsM m m' = frsM (m.drop j) (m'.drop j)) ∧ Below w0.heap.size w0 wr) (fun e _ => m.length - (RowKit.intOf e).toNat)
    case atStart => exact ⟨0, by omega, by omega, rfl, rfl, bj⟩
    case round =>
     clear d0 d1 d2 d3 d4 d5 f0 f1 f2 f3 f4 f5 hkw hkw' hzr bj y1 y3 HF
     clear hjl hj hj'
     obtain ⟨j, hj, hj', rfl, HD, bj⟩ := hrel
     have hzr := bj.size
     obtain ⟨d0, d1, d2, d3, d4, d5⟩ := row6z (hbA.keep (bj.block _ (by omega)))
     obtain ⟨f0, f1, f2, f3, f4, f5⟩ := row6z (hbB.keep (bj.block _ (by omega)))
     have hkw : ∀ x, S x → wr.heap[x]? = w.heap[x]? := fun x hx => (bj.block x (by have := hS x hx; omega)).trans (B2.block x (hS x hx))
     have hkw' : ∀ x, S' x → wr.heap[x]? = w.heap[x]? := fun x hx => (bj.block x (by have := hS' x hx; omega)).trans (B2.block x (hS' x hx))
     by_cases hjl : j < m.length ∧ j < m'.length
     ·have y1 : (j : Int) < m.length := by omega
      have y2 : (j : Int) < m'.length := by omega
      obtain ⟨hSb, hks, csj, hrow, hlj⟩ := liesM_get HM.out j hjl.1
      obtain ⟨hSb', hks', csj', hrow', hlj'⟩ := liesM_get HM'.out j hjl.2
      obtain rfl : am = some ⟨bm, om, none⟩ := ham.at_.resolve_left (by omega)
      obtain rfl : am' = some ⟨bm', om', none⟩ := ham'.at_.resolve_left (by omega)
      have hc : ∀ W, Below wr.heap.size wr W → Calls Tryd.prog 41 #[.agg csj.toArray, .agg csj'.toArray] W (JPost (frsV (m[j]).2 (m'[j]).2) W) := fun W hb =>
       IHM.out m[j] (List.getElem_mem hjl.1) (m'[j]).2 R R' S S' csj csj' W (V.lies_keep (fun h => h) (fun x hx => (hb.block x (by have := hS x hx; omega)).trans (hkw x hx)) (fun _ h => h) _ hlj) (V.lies_keep (fun h => h) (fun x hx => (hb.block x (by have := hS' x hx; omega)).trans (hkw' x hx)) (fun _ h => h) _ hlj') (fun x hx => by have := hS x hx; have := hb.size; omega) (fun x hx => by have := hS' x hx; have := hb.size; omega)
      have HX := frsM_drop hjl.1 hjl.2
      generalize m[j] = mj at *
      generalize m'[j] = nj at *
      obtain ⟨ekey, xj⟩ := mj
      obtain ⟨fkey, yj⟩ := nj
      simp only at hks hks' hrow hrow' hlj hlj' hc HX
      obtain ⟨ek, eb, ei, es, eal, enl, ecl, eam, enm, ecm, rfl⟩ := V.ten hlj
      obtain ⟨fk, fb, fi, fs, fal, fnl, fcl, fam, fnm, fcm, rfl⟩ := V.ten hlj'
      obtain ⟨q, q0, q1, q2, q3, q4, q5⟩ := row7 (hrow.keep (hkw _ hSb))
      obtain ⟨p, p0, p1, p2, p3, p4, p5⟩ := row7 (hrow'.keep (hkw' _ hSb'))
      have hbl : bm < wr.heap.size := World.block_lt_of_cell? wr _ q0
      have hbl' : bm' < wr.heap.size := World.block_lt_of_cell? wr _ p0
      generalize frsV xj yj = c at *
      have CT : Hid (∀ x : Sub wr.heap.size wr, Calls Tryd.prog 49 #[.string ekey, .string fkey] x.w fun e w'' => e = .returned (.int .i64 (cmpT ekey fkey)) ∧ ∃ y : Sub wr.heap.size wr, w'' = y.w) := sub_call fun W hb => (oftexts_any ekey fkey W).mono fun e w'' h => ⟨h.1, hb.trans (h.2.mono hb.size)⟩
      generalize cmpT ekey fkey = ct at *
      have x5 : ∀ x : Sub wr.heap.size wr, _ := sub_cell d5 (by omega)
      have z5 : ∀ x : Sub wr.heap.size wr, _ := sub_cell f5 (by omega)
      have a : ∀ x : Sub wr.heap.size wr, _ := sub_cell q hbl
      have c' : ∀ x : Sub wr.heap.size wr, _ := sub_cell p hbl'
      go_wp2_with fail
      refine wp_region_sub wr.heap.size (by kernel_rfl) (by kernel_rfl) ?_
      repeat (go_big_quiet_step (exact CT.out _))
      refine wpQuiet_nil ?_
      rintro wq ⟨⟨wq', bq⟩, hq⟩
      have hq' : wq = wq' := hq
      subst hq'
      clear hq
      have hzq := bq.size
      have Bq := bj.trans (bq.mono hzr)
      clear a c' x5 z5 CT
      by_cases hct : ct = 0
      ·subst hct
       have hcq : ∀ W, Below wq.heap.size wq W → Below wr.heap.size wr W := fun W hb => bq.trans (hb.mono hzq)
       have CF : Hid (∀ x : Sub wq.heap.size wq, Calls Tryd.prog 41 #[.agg #[.int .i64 ek, .bool eb, .int .i64 ei, .string es, .slice eal enl ecl, .slice eam enm ecm], .agg #[.int .i64 fk, .bool fb, .int .i64 fi, .string fs, .slice fal fnl fcl, .slice fam fnm fcm]] x.w fun e w'' => e = .returned (.int .i64 c) ∧ ∃ y : Sub wq.heap.size wq, w'' = y.w) := sub_call fun W hb => (hc W (hcq W hb)).mono fun e w'' h => ⟨h.1, hb.trans (h.2.mono hb.size)⟩
       have x5 : ∀ x : Sub wq.heap.size wq, _ := sub_cell ((bq.cell (p := ⟨w.heap.size, 5, none⟩) (by show w.heap.size < _; omega)).trans d5) (by omega)
       have z5 : ∀ x : Sub wq.heap.size wq, _ := sub_cell ((bq.cell (p := ⟨w.heap.size + 1, 5, none⟩) (by show w.heap.size + 1 < _; omega)).trans f5) (by omega)
       have a0 : ∀ x : Sub wq.heap.size wq, _ := sub_cell ((bq.cell (p := ⟨bm, om + j * 7 + 1, none⟩) hbl).trans q0) (by omega)
       have c0 : ∀ x : Sub wq.heap.size wq, _ := sub_cell ((bq.cell (p := ⟨bm', om' + j * 7 + 1, none⟩) hbl').trans p0) (by omega)
       have a1 : ∀ x : Sub wq.heap.size wq, _ := sub_cell ((bq.cell (p := ⟨bm, om + j * 7 + 2, none⟩) hbl).trans q1) (by omega)
       have c1 : ∀ x : Sub wq.heap.size wq, _ := sub_cell ((bq.cell (p := ⟨bm', om' + j * 7 + 2, none⟩) hbl').trans p1) (by omega)
       have a2 : ∀ x : Sub wq.heap.size wq, _ := sub_cell ((bq.cell (p := ⟨bm, om + j * 7 + 3, none⟩) hbl).trans q2) (by omega)
       have c2 : ∀ x : Sub wq.heap.size wq, _ := sub_cell ((bq.cell (p := ⟨bm', om' + j * 7 + 3, none⟩) hbl').trans p2) (by omega)
       have a3 : ∀ x : Sub wq.heap.size wq, _ := sub_cell ((bq.cell (p := ⟨bm, om + j * 7 + 4, none⟩) hbl).trans q3) (by omega)
       have c3 : ∀ x : Sub wq.heap.size wq, _ := sub_cell ((bq.cell (p := ⟨bm', om' + j * 7 + 4, none⟩) hbl').trans p3) (by omega)
       have a4 : ∀ x : Sub wq.heap.size wq, _ := sub_cell ((bq.cell (p := ⟨bm, om + j * 7 + 5, none⟩) hbl).trans q4) (by omega)
       have c4 : ∀ x : Sub wq.heap.size wq, _ := sub_cell ((bq.cell (p := ⟨bm', om' + j * 7 + 5, none⟩) hbl').trans p4) (by omega)
       have a5 : ∀ x : Sub wq.heap.size wq, _ := sub_cell ((bq.cell (p := ⟨bm, om + j * 7 + 6, none⟩) hbl).trans q5) (by omega)
       have c5 : ∀ x : Sub wq.heap.size wq, _ := sub_cell ((bq.cell (p := ⟨bm', om' + j * 7 + 6, none⟩) hbl').trans p5) (by omega)
       clear hlj hlj' hrow hrow' hkw hkw' hc q q0 q1 q2 q3 q4 q5 p p0 p1 p2 p3 p4 p5 hcq
       go_wp2_with fail
       refine wp_region_sub wq.heap.size (by kernel_rfl) (by kernel_rfl) ?_
       repeat (go_big_quiet_step (exact CF.out _))
       refine wpQuiet_nil ?_
       rintro wz ⟨⟨wz', bz⟩, hq⟩
       have hq' : wz = wz' := hq
       subst hq'
       clear hq
       have Bz := Bq.trans (bz.mono (by omega))
       clear a0 a1 a2 a3 a4 a5 c0 c1 c2 c3 c4 c5 x5 z5 CF
       by_cases hc0 : c = 0
       ·subst hc0
        have HD2 : Hid (frsM m m' = frsM (m.drop (j + 1)) (m'.drop (j + 1))) := by show _ = _; rw [HD.out, HX]; simp
        clear HX HD
        go_wp2_with fail
        go_roundw
        case rel => exact ⟨j + 1, by omega, by omega, by go_num, HD2.out, Bz⟩
        case measure => simp [RowKit.intOf]; omega
       ·have HD2 : Hid (frsV (V.mk k b i s l m) (V.mk k b i s' l' m') = c) := by show _ = _; rw [HZ.out, HD.out, HX]; simp [hc0]
        clear HX HD
        go_wp2_with fail
        go_ret
        rw [HD2.out]
        exact ⟨rfl, B2.trans (Bz.mono (by omega))⟩
      ·have HD2 : Hid (frsV (V.mk k b i s l m) (V.mk k b i s' l' m') = ct) := by show _ = _; rw [HZ.out, HD.out, HX, if_neg hct]
       clear HX HD hc hlj hlj' hrow hrow' hkw hkw'
       go_wp2_with fail
       go_ret
       rw [HD2.out]
       exact ⟨rfl, B2.trans (Bq.mono (by omega))⟩
     ·have HE : Hid (frsV (V.mk k b i s l m) (V.mk k b i s' l' m') = cmpI m.length m'.length) := by show _ = _; rw [HZ.out, HD.out, frsM_end hj hj' (by omega)]
      clear HD
      have hc := ofints_any m.length m'.length wr
      generalize cmpI m.length m'.length = c at *
      by_cases hjl1 : j < m.length
      ·have y1 : (j : Int) < m.length := by omega
       have y2 : ¬ (j : Int) < m'.length := by omega
       go_wp2_with fail
       refine hc.mono ?_
       rintro e w3 ⟨rfl, b3⟩
       go_wp2_with fail
       go_ret
       rw [HE.out]
       exact ⟨rfl, B2.trans ((bj.trans (b3.mono hzr)).mono (by omega))⟩
      ·have y1 : ¬ (j : Int) < m.length := by omega
       go_wp2_with fail
       refine hc.mono ?_
       rintro e w3 ⟨rfl, b3⟩
       go_wp2_with fail
       go_ret
       rw [HE.out]
       exact ⟨rfl, B2.trans ((bj.trans (b3.mono hzr)).mono (by omega))⟩
   ·have HZ : Hid (frsV (V.mk k b i s l m) (V.mk k b i s' l' m') = cmpI l.length l'.length) := by show _ = _; rw [HF.out, HE.out, if_neg (cmpI_ne (by omega))]
    have y3 : ¬ (l.length : Int) = l'.length := by omega
    have hc := ofints_any l.length l'.length wr
    generalize cmpI l.length l'.length = c at *
    clear HE
    by_cases hjl1 : j < l.length
    ·have y1 : (j : Int) < l.length := by omega
     have y2 : ¬ (j : Int) < l'.length := by omega
     go_wp2_with fail
     refine hc.mono ?_
     rintro e w3 ⟨rfl, b3⟩
     go_wp2_with fail
     go_ret
     rw [HZ.out]
     exact ⟨rfl, B2.trans ((bj.trans (b3.mono hzr)).mono (by omega))⟩
    ·have y1 : ¬ (j : Int) < l.length := by omega
     go_wp2_with fail
     refine hc.mono ?_
     rintro e w3 ⟨rfl, b3⟩
     go_wp2_with fail
     go_ret
     rw [HZ.out]
     exact ⟨rfl, B2.trans ((bj.trans (b3.mono hzr)).mono (by omega))⟩
theorem cmpT_eq (a b : ByteArray) : cmpT a b = cmpS a b := by
 rw [cmpT, cmpS, ltB, less_cmp, toList_data, toList_data]
 have h0 := cmp_zero a.data.toList b.data.toList
 rcases cmp_one a.data.toList b.data.toList with h | h | h
 ·simp [h]
 ·rw [if_neg (by rw [h]; decide), if_pos (h0.1 h), h]
 ·have : ¬ a.data.toList = b.data.toList := fun e => by rw [h0.2 e] at h; simp at h
  simp [h, this]
theorem cmpI_self (a : Int) : cmpI a a = 0 := by simp [cmpI]
theorem cmpB_self (a : Bool) : cmpB a a = 0 := by simp [cmpB]
theorem goodB_plain {k : Int} {b : Bool} {i : Int} {s : ByteArray} {nl : Nat} {m : List Mem} (h : goodB k b i s nl m = true) : 0 ≤ k ∧ k ≤ 5 ∧ (k = 1 ∨ b = false) ∧ (k = 2 ∨ i = 0) ∧ (k = 3 ∨ s.toList.isEmpty = true) ∧ (k = 4 ∨ nl = 0) ∧ (k = 5 ∨ m.length = 0) := by
 simp only [goodB, Bool.and_eq_true, plainB, decide_eq_true_eq] at h
 exact h.1.1
theorem frsL_nil {l l' : List V} (h : l.length = 0) (h' : l'.length = 0) : frsL l l' = 0 := by
 rw [List.length_eq_zero_iff.1 h, List.length_eq_zero_iff.1 h', frsL]
theorem frsM_nil {l l' : List Mem} (h : l.length = 0) (h' : l'.length = 0) : frsM l l' = 0 := by
 rw [List.length_eq_zero_iff.1 h, List.length_eq_zero_iff.1 h', frsM]
mutual
theorem frs_ord : ∀ v u : V, allG v → allG u → frsV v u = ordV v u
 | .mk k b i s l m, .mk k' b' i' s' l' m', hv, hu => by
  rw [allG] at hv hu
  have p := goodB_plain hv.1
  have q := goodB_plain hu.1
  rw [frsV, ordV]
  by_cases hk : k = k'
  ·subst hk
   simp only [if_true]
   have hL := frsL_ord l l' hv.2.1 hu.2.1
   have hM := frsM_ord m m' hv.2.2 hu.2.2
   have eb : k ≠ 1 → b = b' := fun h => by rw [p.2.2.1.resolve_left h, q.2.2.1.resolve_left h]
   have ei : k ≠ 2 → i = i' := fun h => by rw [p.2.2.2.1.resolve_left h, q.2.2.2.1.resolve_left h]
   have es : k ≠ 3 → s.toList = s'.toList := fun h => by
    rw [List.isEmpty_iff.1 (p.2.2.2.2.1.resolve_left h), List.isEmpty_iff.1 (q.2.2.2.2.1.resolve_left h)]
   have el : k ≠ 4 → frsL l l' = 0 := fun h => frsL_nil (p.2.2.2.2.2.1.resolve_left h) (q.2.2.2.2.2.1.resolve_left h)
   have em : k ≠ 5 → frsM m m' = 0 := fun h => frsM_nil (p.2.2.2.2.2.2.resolve_left h) (q.2.2.2.2.2.2.resolve_left h)
   by_cases h1 : k = 1
   ·subst h1
    rw [if_pos (ei (by decide)), if_pos (es (by decide)), if_pos (el (by decide)), em (by decide)]
    simp only [if_true]
    by_cases hb : b = b'
    ·rw [if_pos hb, hb, cmpB_self]
    ·rw [if_neg hb]
   rw [if_pos (eb h1), if_neg h1]
   by_cases h2 : k = 2
   ·subst h2
    rw [if_pos (es (by decide)), if_pos (el (by decide)), em (by decide)]
    simp only [if_true]
    by_cases hb : i = i'
    ·rw [if_pos hb, hb, cmpI_self]
    ·rw [if_neg hb]
   rw [if_pos (ei h2), if_neg h2]
   by_cases h3 : k = 3
   ·subst h3
    rw [if_pos (el (by decide)), em (by decide)]
    simp only [if_true]
    by_cases hb : s.toList = s'.toList
    ·rw [if_pos hb, (cmpS_zero s s').2 hb]
    ·rw [if_neg hb, cmpT_eq]
   rw [if_pos (es h3), if_neg h3]
   by_cases h4 : k = 4
   ·subst h4
    rw [em (by decide), ← hL]
    simp only [if_true]
    by_cases hb : frsL l l' = 0
    ·rw [if_pos hb, hb]
    ·rw [if_neg hb]
   rw [if_pos (el h4), if_neg h4]
   by_cases h5 : k = 5
   ·rw [if_pos h5, hM]
   ·rw [if_neg h5, em h5]
  ·rw [if_neg hk, if_neg hk]
theorem frsL_ord : ∀ l u : List V, allGL l → allGL u → frsL l u = ordL l u
 | [], [], _, _ => by rw [frsL, ordL]
 | [], _ :: _, _, _ => by rw [frsL, ordL]
 | _ :: _, [], _, _ => by rw [frsL, ordL]
 | x :: t, y :: u, hl, hu => by
  rw [allGL] at hl hu
  rw [frsL, ordL, frs_ord x y hl.1 hu.1, frsL_ord t u hl.2 hu.2]
theorem frsM_ord : ∀ l u : List Mem, allGM l → allGM u → frsM l u = ordM l u
 | [], [], _, _ => by rw [frsM, ordM]
 | [], _ :: _, _, _ => by rw [frsM, ordM]
 | _ :: _, [], _, _ => by rw [frsM, ordM]
 | (k, x) :: t, (k', y) :: u, hl, hu => by
  rw [allGM] at hl hu
  rw [frsM, ordM, frs_ord x y hl.1 hu.1, frsM_ord t u hl.2 hu.2, cmpT_eq]
  by_cases hk : k.toList = k'.toList
  ·rw [if_pos ((cmpS_zero k k').2 hk), if_pos hk]
  ·have : ¬ cmpS k k' = 0 := fun e => hk ((cmpS_zero k k').1 e)
   rw [if_neg this, if_neg hk, if_neg this]
end
theorem frs_of {v u : V} (h : okV v = true) (h' : okV u = true) : frsV v u = ordV v u := frs_ord v u (chkV_allG 40 v 0 _ (okV_true h)) (chkV_allG 40 u 0 _ (okV_true h'))
set_option maxHeartbeats 8000000 in
set_option maxRecDepth 100000 in
theorem requal_any (v u : V) (R R' : Bool) (S S' : Nat → Prop) (cs cs' : List Value) (w : World) (hv : v.lies R w S cs) (hu : u.lies R' w S' cs') (hS : ∀ b, S b → b < w.heap.size) (hS' : ∀ b, S' b → b < w.heap.size) (hwt : v.wt ≤ 1099511627776) (hwt' : u.wt ≤ 1099511627776) :
 Calls Tryd.prog 29 #[.agg cs.toArray, .agg cs'.toArray] w (BPost (eqlV v u) w) := by
 obtain ⟨ek, eb, ei, es, eal, enl, ecl, eam, enm, ecm, rfl⟩ := V.ten hv
 obtain ⟨fk, fb, fi, fs, fal, fnl, fcl, fam, fnm, fcm, rfl⟩ := V.ten hu
 have hz1 := alloc_size w (.cells #[.int .i64 ek, .bool eb, .int .i64 ei, .string es, .slice eal enl ecl, .slice eam enm ecm] 25)
 have hz2 : ((w.alloc (.cells #[.int .i64 ek, .bool eb, .int .i64 ei, .string es, .slice eal enl ecl, .slice eam enm ecm] 25)).alloc (.cells #[.int .i64 fk, .bool fb, .int .i64 fi, .string fs, .slice fal fnl fcl, .slice fam fnm fcm] 25)).heap.size = w.heap.size + 2 := by rw [alloc_size, alloc_size]
 have B2 : Below w.heap.size w ((w.alloc (.cells #[.int .i64 ek, .bool eb, .int .i64 ei, .string es, .slice eal enl ecl, .slice eam enm ecm] 25)).alloc (.cells #[.int .i64 fk, .bool fb, .int .i64 fi, .string fs, .slice fal fnl fcl, .slice fam fnm fcm] 25)) := ((Below.refl _ _).alloc (Nat.le_refl _) _).alloc (by omega) _
 have hbA : rowAt ((w.alloc (.cells #[.int .i64 ek, .bool eb, .int .i64 ei, .string es, .slice eal enl ecl, .slice eam enm ecm] 25)).alloc (.cells #[.int .i64 fk, .bool fb, .int .i64 fi, .string fs, .slice fal fnl fcl, .slice fam fnm fcm] 25)) w.heap.size 0 [.int .i64 ek, .bool eb, .int .i64 ei, .string es, .slice eal enl ecl, .slice eam enm ecm] := (box_row w [.int .i64 ek, .bool eb, .int .i64 ei, .string es, .slice eal enl ecl, .slice eam enm ecm] 25).keep (Below.heap_alloc (w.alloc (.cells #[.int .i64 ek, .bool eb, .int .i64 ei, .string es, .slice eal enl ecl, .slice eam enm ecm] 25)) (.cells #[.int .i64 fk, .bool fb, .int .i64 fi, .string fs, .slice fal fnl fcl, .slice fam fnm fcm] 25) w.heap.size (by omega))
 have hbB : rowAt ((w.alloc (.cells #[.int .i64 ek, .bool eb, .int .i64 ei, .string es, .slice eal enl ecl, .slice eam enm ecm] 25)).alloc (.cells #[.int .i64 fk, .bool fb, .int .i64 fi, .string fs, .slice fal fnl fcl, .slice fam fnm fcm] 25)) (w.heap.size + 1) 0 [.int .i64 fk, .bool fb, .int .i64 fi, .string fs, .slice fal fnl fcl, .slice fam fnm fcm] := by
  have h := box_row (w.alloc (.cells #[.int .i64 ek, .bool eb, .int .i64 ei, .string es, .slice eal enl ecl, .slice eam enm ecm] 25)) [.int .i64 fk, .bool fb, .int .i64 fi, .string fs, .slice fal fnl fcl, .slice fam fnm fcm] 25
  rw [hz1] at h
  exact h
 have HV : Hid (∀ W, Below w.heap.size w W → v.lies R W S [.int .i64 ek, .bool eb, .int .i64 ei, .string es, .slice eal enl ecl, .slice eam enm ecm] ∧ (∀ b, S b → b < W.heap.size)) := fun W hb => ⟨V.lies_keep (fun h => h) (fun x hx => hb.block x (hS x hx)) (fun _ h => h) _ hv, fun x hx => Nat.lt_of_lt_of_le (hS x hx) hb.size⟩
 have HU : Hid (∀ W, Below w.heap.size w W → u.lies R' W S' [.int .i64 fk, .bool fb, .int .i64 fi, .string fs, .slice fal fnl fcl, .slice fam fnm fcm] ∧ (∀ b, S' b → b < W.heap.size)) := fun W hb => ⟨V.lies_keep (fun h => h) (fun x hx => hb.block x (hS' x hx)) (fun _ h => h) _ hu, fun x hx => Nat.lt_of_lt_of_le (hS' x hx) hb.size⟩
 clear hv hu
 obtain ⟨d0, d1, d2, d3, d4, d5⟩ := row6z hbA
 go_enter Tryd.func29, Tryd.ntmps29
 go_wp2_with fail
 clear d0 d1 d2 d3 d4 d5
 generalize ((w.alloc (.cells #[.int .i64 ek, .bool eb, .int .i64 ei, .string es, .slice eal enl ecl, .slice eam enm ecm] 25)).alloc (.cells #[.int .i64 fk, .bool fb, .int .i64 fi, .string fs, .slice fal fnl fcl, .slice fam fnm fcm] 25)) = w0 at *
 refine (rtaken_any R v S _ w0 (HV.out w0 B2).1 (HV.out w0 B2).2 hwt).mono ?_
 rintro e w1 ⟨rfl, b1⟩
 have hs1 := b1.size
 have B3 := B2.trans (b1.mono (by omega))
 have hbA1 := hbA.keep (b1.block _ (by omega))
 have hbB1 := hbB.keep (b1.block _ (by omega))
 obtain ⟨f0, f1, f2, f3, f4, f5⟩ := row6z hbB1
 go_wp2_with fail
 refine (rtaken_any R' u S' _ w1 (HU.out w1 B3).1 (HU.out w1 B3).2 hwt').mono ?_
 rintro e w2 ⟨rfl, b2⟩
 have hs2 := b2.size
 have B4 := B3.trans (b2.mono (by omega))
 obtain ⟨d0, d1, d2, d3, d4, d5⟩ := row6z (hbA1.keep (b2.block _ (by omega)))
 clear f0 f1 f2 f3 f4 f5
 obtain ⟨f0, f1, f2, f3, f4, f5⟩ := row6z (hbB1.keep (b2.block _ (by omega)))
 cases ho : okV v with
 | false =>
  have HN : Hid (eqlV v u = false) := by show _ = _; simp [eqlV, ho]
  cases ho2 : okV u with
  | false =>
   go_wp2_with fail
   go_ret
   rw [HN.out]
   exact ⟨rfl, B4⟩
  | true =>
   go_wp2_with fail
   go_ret
   rw [HN.out]
   exact ⟨rfl, B4⟩
 | true =>
  cases ho2 : okV u with
  | false =>
   have HN : Hid (eqlV v u = false) := by show _ = _; simp [eqlV, ho2]
   go_wp2_with fail
   go_ret
   rw [HN.out]
   exact ⟨rfl, B4⟩
  | true =>
   have hc := first_any v u R R' S S' _ _ w2 (HV.out w2 B4).1 (HU.out w2 B4).1 (HV.out w2 B4).2 (HU.out w2 B4).2
   rw [frs_of ho ho2] at hc
   have HY : Hid (eqlV v u = decide (ordV v u = 0)) := by show _ = _; simp [eqlV, ho, ho2]
   generalize ordV v u = c at *
   go_wp2_with fail
   refine hc.mono ?_
   rintro e w3 ⟨rfl, b3⟩
   go_wp2_with fail
   go_ret
   rw [HY.out]
   exact ⟨by simp only [beq_dec]; rfl, B4.trans (b3.mono (by omega))⟩
end Go.Proofs.YtjfldbmopjojdabDoor
