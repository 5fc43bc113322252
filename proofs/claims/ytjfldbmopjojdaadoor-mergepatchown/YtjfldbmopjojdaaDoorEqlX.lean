import Derived.Test.YtjfldbmopjojdaaDoorGetX
set_option linter.unusedSimpArgs false
set_option linter.unusedVariables false
namespace Go.Proofs.YtjfldbmopjojdaaDoor
open Go.RowKit Go.Lib
theorem sevC {w : World} {g : Nat} {a0 a1 a2 a3 a4 a5 a6 : Value} {t : TypeId} {f : Nat × Nat} (h : w.heap[g]? = some (.cells #[a0, a1, a2, a3, a4, a5, a6] t f)) :
    w.cell? ⟨g, 0, none⟩ = some a0 ∧ w.cell? ⟨g, 1, none⟩ = some a1 ∧ w.cell? ⟨g, 2, none⟩ = some a2 ∧ w.cell? ⟨g, 3, none⟩ = some a3 ∧ w.cell? ⟨g, 4, none⟩ = some a4 ∧ w.cell? ⟨g, 5, none⟩ = some a5 ∧ w.cell? ⟨g, 6, none⟩ = some a6 :=
  ⟨by rw [cell_of_block h]; rfl, by rw [cell_of_block h]; rfl, by rw [cell_of_block h]; rfl, by rw [cell_of_block h]; rfl, by rw [cell_of_block h]; rfl, by rw [cell_of_block h]; rfl, by rw [cell_of_block h]; rfl⟩
def cmpI (a b : Int) : Int := if a < b then -1 else if b < a then 1 else 0
def cmpB (a b : Bool) : Int := if a = b then 0 else if b = true then -1 else 1
mutual
def ordV : V → V → Int
 | .mk k b i s l m, .mk k' b' i' s' l' m' =>
  if k = k' then
   if k = 1 then cmpB b b' else if k = 2 then cmpI i i' else if k = 3 then cmpS s s' else if k = 4 then ordL l l' else if k = 5 then ordM m m' else 0
  else cmpI k k'
def ordL : List V → List V → Int
 | [], [] => 0
 | [], _ :: _ => -1
 | _ :: _, [] => 1
 | x :: t, y :: u => if ordV x y = 0 then ordL t u else ordV x y
def ordM : List Mem → List Mem → Int
 | [], [] => 0
 | [], _ :: _ => -1
 | _ :: _, [] => 1
 | (k, x) :: t, (k', y) :: u => if k.toList = k'.toList then (if ordV x y = 0 then ordM t u else ordV x y) else if cmpS k k' = 0 then ordM t u else cmpS k k'
end
def ordE (p q : Mem) : Int := if p.1.toList = q.1.toList then ordV p.2 q.2 else cmpS p.1 q.1
theorem ordM_cons (p q : Mem) (t u : List Mem) : ordM (p :: t) (q :: u) = if ordE p q = 0 then ordM t u else ordE p q := by
 obtain ⟨k, x⟩ := p
 obtain ⟨k', y⟩ := q
 rw [ordM, ordE]
 split <;> rfl
theorem ordL_drop {l l' : List V} {j : Nat} (h : j < l.length) (h' : j < l'.length) : ordL (l.drop j) (l'.drop j) = if ordV l[j] l'[j] = 0 then ordL (l.drop (j + 1)) (l'.drop (j + 1)) else ordV l[j] l'[j] := by
 rw [List.drop_eq_getElem_cons h, List.drop_eq_getElem_cons h', ordL]
theorem ordL_long {l l' : List V} {j : Nat} (h : j < l.length) (h' : l'.length ≤ j) : ordL (l.drop j) (l'.drop j) = 1 := by
 rw [List.drop_eq_getElem_cons h, List.drop_eq_nil_of_le h', ordL]
theorem ordL_end {l l' : List V} (h : l.length ≤ l'.length) : ordL (l.drop l.length) (l'.drop l.length) = if l.length < l'.length then -1 else 0 := by
 rw [List.drop_length]
 by_cases hl : l.length < l'.length
 ·rw [List.drop_eq_getElem_cons hl, ordL, if_pos hl]
 ·rw [List.drop_eq_nil_of_le (by omega), ordL, if_neg hl]
theorem ordM_drop {l l' : List Mem} {j : Nat} (h : j < l.length) (h' : j < l'.length) : ordM (l.drop j) (l'.drop j) = if ordE l[j] l'[j] = 0 then ordM (l.drop (j + 1)) (l'.drop (j + 1)) else ordE l[j] l'[j] := by
 rw [List.drop_eq_getElem_cons h, List.drop_eq_getElem_cons h', ordM_cons]
theorem ordM_long {l l' : List Mem} {j : Nat} (h : j < l.length) (h' : l'.length ≤ j) : ordM (l.drop j) (l'.drop j) = 1 := by
 rw [List.drop_eq_getElem_cons h, List.drop_eq_nil_of_le h']
 cases l[j]; rw [ordM]
theorem ordM_end {l l' : List Mem} (h : l.length ≤ l'.length) : ordM (l.drop l.length) (l'.drop l.length) = if l.length < l'.length then -1 else 0 := by
 rw [List.drop_length]
 by_cases hl : l.length < l'.length
 ·rw [List.drop_eq_getElem_cons hl, ordM, if_pos hl]
 ·rw [List.drop_eq_nil_of_le (by omega), ordM, if_neg hl]
theorem isnan_any (a : Int) (w : World) : Calls Tryd.prog 83 #[.int .i64 a] w (BPost false w) := by
 go_enter Tryd.func83, Tryd.ntmps83
 go_wp2_with fail
 go_ret
 exact ⟨by simp, Below.refl _ _⟩
theorem icompare_any (a b : Int) (w : World) : Calls Tryd.prog 77 #[.int .i64 a, .int .i64 b] w (JPost (cmpI a b) w) := by
 go_enter Tryd.func77, Tryd.ntmps77
 go_wp2_with fail
 refine (isnan_any a w).mono ?_
 rintro e w1 ⟨rfl, b1⟩
 go_wp2_with fail
 refine (isnan_any b w1).mono ?_
 rintro e w2 ⟨rfl, b2⟩
 have B2 := b1.trans (b2.mono b1.size)
 by_cases h1 : a < b
 ·have HF : Hid (cmpI a b = -1) := by show _ = _; simp [cmpI, h1]
  go_wp2_with fail
  go_ret
  rw [HF.out]
  exact ⟨rfl, B2⟩
 ·by_cases h2 : b < a
  ·have HF : Hid (cmpI a b = 1) := by show _ = _; simp [cmpI, h1, h2]
   have y2 : a > b := h2
   go_wp2_with fail
   go_ret
   rw [HF.out]
   exact ⟨rfl, B2⟩
  ·have HF : Hid (cmpI a b = 0) := by show _ = _; simp [cmpI, h1, h2]
   have y2 : ¬ a > b := h2
   go_wp2_with fail
   go_ret
   rw [HF.out]
   exact ⟨rfl, B2⟩
theorem bcompare_any (a b : Bool) (w : World) : Calls Tryd.prog 78 #[.bool a, .bool b] w (JPost (cmpB a b) w) := by
 cases a <;> cases b
 all_goals
  go_enter Tryd.func78, Tryd.ntmps78
  go_wp2_with fail
  go_ret
  exact ⟨rfl, Below.refl _ _⟩
set_option maxHeartbeats 8000000 in
set_option maxRecDepth 100000 in
theorem cmpfL (l l' : List V) (R R' : Bool) (S S' : Nat → Prop) (al al' : Option Addr) (cl cl' bl ol bl' ol' : Nat) (w : World) (hal : Headed al l.length cl bl ol) (hal' : Headed al' l'.length cl' bl' ol') (hl : liesL R w S l bl ol) (hl' : liesL R' w S' l' bl' ol') (hS : ∀ b, S b → b < w.heap.size) (hS' : ∀ b, S' b → b < w.heap.size)
 (ih : ∀ (j : Nat) (h : j < l.length) (h' : j < l'.length) (cs cs' : List Value) (W : World), (l[j]).lies R W S cs → (l'[j]).lies R' W S' cs' → (∀ b, S b → b < W.heap.size) → (∀ b, S' b → b < W.heap.size) → Calls Tryd.prog 73 #[.agg cs.toArray, .agg cs'.toArray] W (JPost (ordV l[j] l'[j]) W)) :
 Calls Tryd.prog 79 #[.slice al l.length cl, .slice al' l'.length cl', .func (.func 73) #[] #[]] w (JPost (ordL l l') w) := by
 have HL : Hid (liesL R w S l bl ol) := hl
 have HL' : Hid (liesL R' w S' l' bl' ol') := hl'
 have IH : Hid _ := ih
 clear hl hl' ih
 have hm1 : l.length ≤ 9223372036854775807 := Nat.le_trans hal.le hal.max
 have hm2 : l'.length ≤ 9223372036854775807 := Nat.le_trans hal'.le hal'.max
 go_enter Tryd.func79, Tryd.ntmps79
 go_wp2_with fail
 go_loopw [13] (fun e wr => ∃ j : Nat, j ≤ l.length ∧ j ≤ l'.length ∧ e = .int .i64 (j : Int) ∧ Hid (ordL l l' = ordL (l.drop j) (l'.drop j)) ∧ Below w.heap.size w wr) (fun e _ => l.length - (RowKit.intOf e).toNat)
 case atStart => exact ⟨0, by omega, by omega, rfl, rfl, Below.refl _ _⟩
 case round =>
  obtain ⟨j, hj, hj', rfl, HD, bj⟩ := hrel
  have hzr := bj.size
  by_cases hjl : j < l.length
  ·have y1 : (j : Int) < l.length := by omega
   obtain ⟨hSb, csj, hrow, hlj⟩ := liesL_get HL.out j hjl
   obtain rfl : al = some ⟨bl, ol, none⟩ := hal.at_.resolve_left (by omega)
   have hkw : ∀ x, S x → wr.heap[x]? = w.heap[x]? := fun x hx => bj.block x (hS x hx)
   have hlj0 := hlj
   obtain ⟨ek, eb, ei, es, eal, enl, ecl, eam, enm, ecm, rfl⟩ := V.ten hlj
   obtain ⟨q0, q1, q2, q3, q4, q5⟩ := row6 (hrow.keep (hkw _ hSb))
   by_cases hjm : j < l'.length
   ·have y2 : ¬ (j : Int) ≥ l'.length := by omega
    obtain ⟨hSb', csj', hrow', hlj'⟩ := liesL_get HL'.out j hjm
    obtain rfl : al' = some ⟨bl', ol', none⟩ := hal'.at_.resolve_left (by omega)
    have hkw' : ∀ x, S' x → wr.heap[x]? = w.heap[x]? := fun x hx => bj.block x (hS' x hx)
    have hlj0' := hlj'
    obtain ⟨fk, fb, fi, fs, fal, fnl, fcl, fam, fnm, fcm, rfl⟩ := V.ten hlj'
    obtain ⟨p0, p1, p2, p3, p4, p5⟩ := row6 (hrow'.keep (hkw' _ hSb'))
    have hbl' : bl' < wr.heap.size := by have := hS' _ hSb'; omega
    have hz1 := alloc_size wr (.cells #[.int .i64 ek, .bool eb, .int .i64 ei, .string es, .slice eal enl ecl, .slice eam enm ecm] 25)
    have p0' : ∀ o, (wr.alloc o).cell? ⟨bl', ol' + j * 6, none⟩ = some (.int .i64 fk) := fun o => (((Below.refl wr.heap.size wr).alloc (Nat.le_refl _) o).cell (p := ⟨bl', ol' + j * 6, none⟩) hbl').trans p0
    have p1' : ∀ o, (wr.alloc o).cell? ⟨bl', ol' + j * 6 + 1, none⟩ = some (.bool fb) := fun o => (((Below.refl wr.heap.size wr).alloc (Nat.le_refl _) o).cell (p := ⟨bl', ol' + j * 6 + 1, none⟩) hbl').trans p1
    have p2' : ∀ o, (wr.alloc o).cell? ⟨bl', ol' + j * 6 + 2, none⟩ = some (.int .i64 fi) := fun o => (((Below.refl wr.heap.size wr).alloc (Nat.le_refl _) o).cell (p := ⟨bl', ol' + j * 6 + 2, none⟩) hbl').trans p2
    have p3' : ∀ o, (wr.alloc o).cell? ⟨bl', ol' + j * 6 + 3, none⟩ = some (.string fs) := fun o => (((Below.refl wr.heap.size wr).alloc (Nat.le_refl _) o).cell (p := ⟨bl', ol' + j * 6 + 3, none⟩) hbl').trans p3
    have p4' : ∀ o, (wr.alloc o).cell? ⟨bl', ol' + j * 6 + 4, none⟩ = some (.slice fal fnl fcl) := fun o => (((Below.refl wr.heap.size wr).alloc (Nat.le_refl _) o).cell (p := ⟨bl', ol' + j * 6 + 4, none⟩) hbl').trans p4
    have p5' : ∀ o, (wr.alloc o).cell? ⟨bl', ol' + j * 6 + 5, none⟩ = some (.slice fam fnm fcm) := fun o => (((Below.refl wr.heap.size wr).alloc (Nat.le_refl _) o).cell (p := ⟨bl', ol' + j * 6 + 5, none⟩) hbl').trans p5
    have B2 : Below wr.heap.size wr ((wr.alloc (.cells #[.int .i64 ek, .bool eb, .int .i64 ei, .string es, .slice eal enl ecl, .slice eam enm ecm] 25)).alloc (.cells #[.int .i64 fk, .bool fb, .int .i64 fi, .string fs, .slice fal fnl fcl, .slice fam fnm fcm] 25)) := ((Below.refl _ _).alloc (Nat.le_refl _) _).alloc (by omega) _
    have hz2 : ((wr.alloc (.cells #[.int .i64 ek, .bool eb, .int .i64 ei, .string es, .slice eal enl ecl, .slice eam enm ecm] 25)).alloc (.cells #[.int .i64 fk, .bool fb, .int .i64 fi, .string fs, .slice fal fnl fcl, .slice fam fnm fcm] 25)).heap.size = wr.heap.size + 2 := by rw [alloc_size, hz1]
    have g1 := alloc2_keep1 wr (.cells #[.int .i64 ek, .bool eb, .int .i64 ei, .string es, .slice eal enl ecl, .slice eam enm ecm] 25) (.cells #[.int .i64 fk, .bool fb, .int .i64 fi, .string fs, .slice fal fnl fcl, .slice fam fnm fcm] 25)
    have hc : Calls Tryd.prog 73 #[.agg #[.int .i64 ek, .bool eb, .int .i64 ei, .string es, .slice eal enl ecl, .slice eam enm ecm], .agg #[.int .i64 fk, .bool fb, .int .i64 fi, .string fs, .slice fal fnl fcl, .slice fam fnm fcm]] ((wr.alloc (.cells #[.int .i64 ek, .bool eb, .int .i64 ei, .string es, .slice eal enl ecl, .slice eam enm ecm] 25)).alloc (.cells #[.int .i64 fk, .bool fb, .int .i64 fi, .string fs, .slice fal fnl fcl, .slice fam fnm fcm] 25)) (JPost (ordV l[j] l'[j]) ((wr.alloc (.cells #[.int .i64 ek, .bool eb, .int .i64 ei, .string es, .slice eal enl ecl, .slice eam enm ecm] 25)).alloc (.cells #[.int .i64 fk, .bool fb, .int .i64 fi, .string fs, .slice fal fnl fcl, .slice fam fnm fcm] 25))) := by
     have h0 := IH.out j hjl hjm _ _ ((wr.alloc (.cells #[.int .i64 ek, .bool eb, .int .i64 ei, .string es, .slice eal enl ecl, .slice eam enm ecm] 25)).alloc (.cells #[.int .i64 fk, .bool fb, .int .i64 fi, .string fs, .slice fal fnl fcl, .slice fam fnm fcm] 25)) (V.lies_keep (fun h => h) (fun x hx => (B2.block x (by have := hS x hx; omega)).trans (hkw x hx)) (fun _ h => h) _ hlj0) (V.lies_keep (fun h => h) (fun x hx => (B2.block x (by have := hS' x hx; omega)).trans (hkw' x hx)) (fun _ h => h) _ hlj0') (fun x hx => by have := hS x hx; omega) (fun x hx => by have := hS' x hx; omega)
     exact h0
    obtain ⟨m0, m1, m2, m3, m4, m5⟩ := sixC g1
    have HX := ordL_drop hjl hjm
    generalize ordV l[j] l'[j] = c at *
    clear hlj hlj0 hlj' hlj0' hrow hrow' hkw hkw' p0 p1 p2 p3 p4 p5 hS hS' g1
    go_wp2_with fail
    refine hc.mono ?_
    rintro e w3 ⟨rfl, b3⟩
    have B3 := bj.trans ((B2.mono hzr).trans (b3.mono (by omega)))
    by_cases hc0 : c = 0
    ·subst hc0
     have HD2 : Hid (ordL l l' = ordL (l.drop (j + 1)) (l'.drop (j + 1))) := by show _ = _; rw [HD.out, HX, if_pos rfl]
     clear HX HD
     go_wp2_with fail
     go_roundw
     case rel => exact ⟨j + 1, by omega, by omega, by go_num, HD2.out, B3⟩
     case measure => simp [RowKit.intOf]; omega
    ·have HD2 : Hid (ordL l l' = c) := by show _ = _; rw [HD.out, HX, if_neg hc0]
     clear HX HD
     go_wp2_with fail
     go_ret
     rw [HD2.out]
     exact ⟨rfl, B3⟩
   ·have y2 : (j : Int) ≥ l'.length := by omega
    have HD2 : Hid (ordL l l' = 1) := by show _ = _; rw [HD.out, ordL_long hjl (by omega)]
    clear HD
    go_wp2_with fail
    go_ret
    rw [HD2.out]
    exact ⟨rfl, bj.alloc hzr _⟩
  ·obtain rfl : j = l.length := by omega
   have y1 : ¬ (l.length : Int) < l.length := by omega
   have HD2 : Hid (ordL l l' = if l.length < l'.length then -1 else 0) := by show _ = _; rw [HD.out, ordL_end hj']
   clear HD
   by_cases hlt : l.length < l'.length
   ·have y2 : (l.length : Int) < l'.length := by omega
    go_wp2_with fail
    go_ret
    rw [HD2.out, if_pos hlt]
    exact ⟨rfl, bj⟩
   ·have y2 : ¬ (l.length : Int) < l'.length := by omega
    go_wp2_with fail
    go_ret
    rw [HD2.out, if_neg hlt]
    exact ⟨rfl, bj⟩
set_option maxHeartbeats 8000000 in
set_option maxRecDepth 100000 in
theorem cmpfM (l l' : List Mem) (R R' : Bool) (S S' : Nat → Prop) (al al' : Option Addr) (cl cl' bl ol bl' ol' : Nat) (w : World) (hal : Headed al l.length cl bl ol) (hal' : Headed al' l'.length cl' bl' ol') (hl : liesM R w S l bl ol) (hl' : liesM R' w S' l' bl' ol') (hS : ∀ b, S b → b < w.heap.size) (hS' : ∀ b, S' b → b < w.heap.size)
 (ih : ∀ (j : Nat) (h : j < l.length) (h' : j < l'.length) (cs cs' : List Value) (W : World), (l[j]).2.lies R W S cs → (l'[j]).2.lies R' W S' cs' → (∀ b, S b → b < W.heap.size) → (∀ b, S' b → b < W.heap.size) → Calls Tryd.prog 81 #[.agg (.string (l[j]).1 :: cs).toArray, .agg (.string (l'[j]).1 :: cs').toArray] W (JPost (ordE l[j] l'[j]) W)) :
 Calls Tryd.prog 80 #[.slice al l.length cl, .slice al' l'.length cl', .func (.func 81) #[] #[]] w (JPost (ordM l l') w) := by
 have HL : Hid (liesM R w S l bl ol) := hl
 have HL' : Hid (liesM R' w S' l' bl' ol') := hl'
 have IH : Hid _ := ih
 clear hl hl' ih
 have hm1 : l.length ≤ 9223372036854775807 := Nat.le_trans hal.le hal.max
 have hm2 : l'.length ≤ 9223372036854775807 := Nat.le_trans hal'.le hal'.max
 go_enter Tryd.func80, Tryd.ntmps80
 go_wp2_with fail
 go_loopw [13] (fun e wr => ∃ j : Nat, j ≤ l.length ∧ j ≤ l'.length ∧ e = .int .i64 (j : Int) ∧ Hid (ordM l l' = ordM (l.drop j) (l'.drop j)) ∧ Below w.heap.size w wr) (fun e _ => l.length - (RowKit.intOf e).toNat)
 case atStart => exact ⟨0, by omega, by omega, rfl, rfl, Below.refl _ _⟩
 case round =>
  obtain ⟨j, hj, hj', rfl, HD, bj⟩ := hrel
  have hzr := bj.size
  by_cases hjl : j < l.length
  ·have y1 : (j : Int) < l.length := by omega
   obtain ⟨hSb, hks, csj, hrow, hlj⟩ := liesM_get HL.out j hjl
   obtain rfl : al = some ⟨bl, ol, none⟩ := hal.at_.resolve_left (by omega)
   have hkw : ∀ x, S x → wr.heap[x]? = w.heap[x]? := fun x hx => bj.block x (hS x hx)
   have hlj0 := hlj
   obtain ⟨ek, eb, ei, es, eal, enl, ecl, eam, enm, ecm, rfl⟩ := V.ten hlj
   obtain ⟨ekey, hek⟩ : ∃ ekey, (l[j]).1 = ekey := ⟨_, rfl⟩
   rw [hek] at hrow
   obtain ⟨q, q0, q1, q2, q3, q4, q5⟩ := row7 (hrow.keep (hkw _ hSb))
   by_cases hjm : j < l'.length
   ·have y2 : ¬ (j : Int) ≥ l'.length := by omega
    obtain ⟨hSb', hks', csj', hrow', hlj'⟩ := liesM_get HL'.out j hjm
    obtain rfl : al' = some ⟨bl', ol', none⟩ := hal'.at_.resolve_left (by omega)
    have hkw' : ∀ x, S' x → wr.heap[x]? = w.heap[x]? := fun x hx => bj.block x (hS' x hx)
    have hlj0' := hlj'
    obtain ⟨fk, fb, fi, fs, fal, fnl, fcl, fam, fnm, fcm, rfl⟩ := V.ten hlj'
    obtain ⟨fkey, hfk⟩ : ∃ fkey, (l'[j]).1 = fkey := ⟨_, rfl⟩
    rw [hfk] at hrow'
    obtain ⟨p, p0, p1, p2, p3, p4, p5⟩ := row7 (hrow'.keep (hkw' _ hSb'))
    have hbl' : bl' < wr.heap.size := by have := hS' _ hSb'; omega
    have hz1 := alloc_size wr (.cells #[.string ekey, .int .i64 ek, .bool eb, .int .i64 ei, .string es, .slice eal enl ecl, .slice eam enm ecm] 57)
    have p' : ∀ o, (wr.alloc o).cell? ⟨bl', ol' + j * 7, none⟩ = some (.string fkey) := fun o => (((Below.refl wr.heap.size wr).alloc (Nat.le_refl _) o).cell (p := ⟨bl', ol' + j * 7, none⟩) hbl').trans p
    have p0' : ∀ o, (wr.alloc o).cell? ⟨bl', ol' + j * 7 + 1, none⟩ = some (.int .i64 fk) := fun o => (((Below.refl wr.heap.size wr).alloc (Nat.le_refl _) o).cell (p := ⟨bl', ol' + j * 7 + 1, none⟩) hbl').trans p0
    have p1' : ∀ o, (wr.alloc o).cell? ⟨bl', ol' + j * 7 + 2, none⟩ = some (.bool fb) := fun o => (((Below.refl wr.heap.size wr).alloc (Nat.le_refl _) o).cell (p := ⟨bl', ol' + j * 7 + 2, none⟩) hbl').trans p1
    have p2' : ∀ o, (wr.alloc o).cell? ⟨bl', ol' + j * 7 + 3, none⟩ = some (.int .i64 fi) := fun o => (((Below.refl wr.heap.size wr).alloc (Nat.le_refl _) o).cell (p := ⟨bl', ol' + j * 7 + 3, none⟩) hbl').trans p2
    have p3' : ∀ o, (wr.alloc o).cell? ⟨bl', ol' + j * 7 + 4, none⟩ = some (.string fs) := fun o => (((Below.refl wr.heap.size wr).alloc (Nat.le_refl _) o).cell (p := ⟨bl', ol' + j * 7 + 4, none⟩) hbl').trans p3
    have p4' : ∀ o, (wr.alloc o).cell? ⟨bl', ol' + j * 7 + 5, none⟩ = some (.slice fal fnl fcl) := fun o => (((Below.refl wr.heap.size wr).alloc (Nat.le_refl _) o).cell (p := ⟨bl', ol' + j * 7 + 5, none⟩) hbl').trans p4
    have p5' : ∀ o, (wr.alloc o).cell? ⟨bl', ol' + j * 7 + 6, none⟩ = some (.slice fam fnm fcm) := fun o => (((Below.refl wr.heap.size wr).alloc (Nat.le_refl _) o).cell (p := ⟨bl', ol' + j * 7 + 6, none⟩) hbl').trans p5
    have B2 : Below wr.heap.size wr ((wr.alloc (.cells #[.string ekey, .int .i64 ek, .bool eb, .int .i64 ei, .string es, .slice eal enl ecl, .slice eam enm ecm] 57)).alloc (.cells #[.string fkey, .int .i64 fk, .bool fb, .int .i64 fi, .string fs, .slice fal fnl fcl, .slice fam fnm fcm] 57)) := ((Below.refl _ _).alloc (Nat.le_refl _) _).alloc (by omega) _
    have hz2 : ((wr.alloc (.cells #[.string ekey, .int .i64 ek, .bool eb, .int .i64 ei, .string es, .slice eal enl ecl, .slice eam enm ecm] 57)).alloc (.cells #[.string fkey, .int .i64 fk, .bool fb, .int .i64 fi, .string fs, .slice fal fnl fcl, .slice fam fnm fcm] 57)).heap.size = wr.heap.size + 2 := by rw [alloc_size, hz1]
    have g1 := alloc2_keep1 wr (.cells #[.string ekey, .int .i64 ek, .bool eb, .int .i64 ei, .string es, .slice eal enl ecl, .slice eam enm ecm] 57) (.cells #[.string fkey, .int .i64 fk, .bool fb, .int .i64 fi, .string fs, .slice fal fnl fcl, .slice fam fnm fcm] 57)
    have hc : Calls Tryd.prog 81 #[.agg #[.string ekey, .int .i64 ek, .bool eb, .int .i64 ei, .string es, .slice eal enl ecl, .slice eam enm ecm], .agg #[.string fkey, .int .i64 fk, .bool fb, .int .i64 fi, .string fs, .slice fal fnl fcl, .slice fam fnm fcm]] ((wr.alloc (.cells #[.string ekey, .int .i64 ek, .bool eb, .int .i64 ei, .string es, .slice eal enl ecl, .slice eam enm ecm] 57)).alloc (.cells #[.string fkey, .int .i64 fk, .bool fb, .int .i64 fi, .string fs, .slice fal fnl fcl, .slice fam fnm fcm] 57)) (JPost (ordE l[j] l'[j]) ((wr.alloc (.cells #[.string ekey, .int .i64 ek, .bool eb, .int .i64 ei, .string es, .slice eal enl ecl, .slice eam enm ecm] 57)).alloc (.cells #[.string fkey, .int .i64 fk, .bool fb, .int .i64 fi, .string fs, .slice fal fnl fcl, .slice fam fnm fcm] 57))) := by
     have h0 := IH.out j hjl hjm _ _ ((wr.alloc (.cells #[.string ekey, .int .i64 ek, .bool eb, .int .i64 ei, .string es, .slice eal enl ecl, .slice eam enm ecm] 57)).alloc (.cells #[.string fkey, .int .i64 fk, .bool fb, .int .i64 fi, .string fs, .slice fal fnl fcl, .slice fam fnm fcm] 57)) (V.lies_keep (fun h => h) (fun x hx => (B2.block x (by have := hS x hx; omega)).trans (hkw x hx)) (fun _ h => h) _ hlj0) (V.lies_keep (fun h => h) (fun x hx => (B2.block x (by have := hS' x hx; omega)).trans (hkw' x hx)) (fun _ h => h) _ hlj0') (fun x hx => by have := hS x hx; omega) (fun x hx => by have := hS' x hx; omega)
     rw [hek, hfk] at h0; exact h0
    obtain ⟨m0, m1, m2, m3, m4, m5, m6⟩ := sevC g1
    have HX := ordM_drop hjl hjm
    generalize ordE l[j] l'[j] = c at *
    clear hlj hlj0 hlj' hlj0' hrow hrow' hkw hkw' p p0 p1 p2 p3 p4 p5 hS hS' g1
    go_wp2_with fail
    refine hc.mono ?_
    rintro e w3 ⟨rfl, b3⟩
    have B3 := bj.trans ((B2.mono hzr).trans (b3.mono (by omega)))
    by_cases hc0 : c = 0
    ·subst hc0
     have HD2 : Hid (ordM l l' = ordM (l.drop (j + 1)) (l'.drop (j + 1))) := by show _ = _; rw [HD.out, HX, if_pos rfl]
     clear HX HD
     go_wp2_with fail
     go_roundw
     case rel => exact ⟨j + 1, by omega, by omega, by go_num, HD2.out, B3⟩
     case measure => simp [RowKit.intOf]; omega
    ·have HD2 : Hid (ordM l l' = c) := by show _ = _; rw [HD.out, HX, if_neg hc0]
     clear HX HD
     go_wp2_with fail
     go_ret
     rw [HD2.out]
     exact ⟨rfl, B3⟩
   ·have y2 : (j : Int) ≥ l'.length := by omega
    have HD2 : Hid (ordM l l' = 1) := by show _ = _; rw [HD.out, ordM_long hjl (by omega)]
    clear HD
    go_wp2_with fail
    go_ret
    rw [HD2.out]
    exact ⟨rfl, bj.alloc hzr _⟩
  ·obtain rfl : j = l.length := by omega
   have y1 : ¬ (l.length : Int) < l.length := by omega
   have HD2 : Hid (ordM l l' = if l.length < l'.length then -1 else 0) := by show _ = _; rw [HD.out, ordM_end hj']
   clear HD
   by_cases hlt : l.length < l'.length
   ·have y2 : (l.length : Int) < l'.length := by omega
    go_wp2_with fail
    go_ret
    rw [HD2.out, if_pos hlt]
    exact ⟨rfl, bj⟩
   ·have y2 : ¬ (l.length : Int) < l'.length := by omega
    go_wp2_with fail
    go_ret
    rw [HD2.out, if_neg hlt]
    exact ⟨rfl, bj⟩
set_option maxHeartbeats 8000000 in
set_option maxRecDepth 100000 in
theorem orderMem_any (p q : Mem) (cs cs' : List Value) (w : World) (h6 : ∃ ek eb ei es eal enl ecl eam enm ecm, cs = [.int .i64 ek, .bool eb, .int .i64 ei, .string es, .slice eal enl ecl, .slice eam enm ecm]) (h6' : ∃ fk fb fi fs fal fnl fcl fam fnm fcm, cs' = [.int .i64 fk, .bool fb, .int .i64 fi, .string fs, .slice fal fnl fcl, .slice fam fnm fcm])
 (ih : ∀ W, Below w.heap.size w W → Calls Tryd.prog 73 #[.agg cs.toArray, .agg cs'.toArray] W (JPost (ordV p.2 q.2) W)) :
 Calls Tryd.prog 81 #[.agg (.string p.1 :: cs).toArray, .agg (.string q.1 :: cs').toArray] w (JPost (ordE p q) w) := by
 obtain ⟨ek, eb, ei, es, eal, enl, ecl, eam, enm, ecm, rfl⟩ := h6
 obtain ⟨fk, fb, fi, fs, fal, fnl, fcl, fam, fnm, fcm, rfl⟩ := h6'
 obtain ⟨pk, x⟩ := p
 obtain ⟨qk, y⟩ := q
 have B2 : Below w.heap.size w ((w.alloc (.cells #[.string pk, .int .i64 ek, .bool eb, .int .i64 ei, .string es, .slice eal enl ecl, .slice eam enm ecm] 57)).alloc (.cells #[.string qk, .int .i64 fk, .bool fb, .int .i64 fi, .string fs, .slice fal fnl fcl, .slice fam fnm fcm] 57)) := ((Below.refl _ _).alloc (Nat.le_refl _) _).alloc (by rw [alloc_size]; omega) _
 have hz2 : ((w.alloc (.cells #[.string pk, .int .i64 ek, .bool eb, .int .i64 ei, .string es, .slice eal enl ecl, .slice eam enm ecm] 57)).alloc (.cells #[.string qk, .int .i64 fk, .bool fb, .int .i64 fi, .string fs, .slice fal fnl fcl, .slice fam fnm fcm] 57)).heap.size = w.heap.size + 2 := by rw [alloc_size, alloc_size]
 have g1 := alloc2_keep1 w (.cells #[.string pk, .int .i64 ek, .bool eb, .int .i64 ei, .string es, .slice eal enl ecl, .slice eam enm ecm] 57) (.cells #[.string qk, .int .i64 fk, .bool fb, .int .i64 fi, .string fs, .slice fal fnl fcl, .slice fam fnm fcm] 57)
 obtain ⟨m0, m1, m2, m3, m4, m5, m6⟩ := sevC g1
 have hc := ih _ B2
 clear ih g1
 simp only at hc
 by_cases hk : pk.toList = qk.toList
 ·have HF : Hid (ordE (pk, x) (qk, y) = ordV x y) := by show _ = _; simp [ordE, hk]
  have yK : (pk.toList == qk.toList) = true := by rw [beq_iff_eq]; exact hk
  clear hk
  generalize ordV x y = c at *
  go_enter Tryd.func81, Tryd.ntmps81
  go_wp2_with fail
  refine hc.mono ?_
  rintro e w3 ⟨rfl, b3⟩
  go_wp2_with fail
  go_ret
  rw [HF.out]
  exact ⟨rfl, B2.trans (b3.mono (by omega))⟩
 ·have HF : Hid (ordE (pk, x) (qk, y) = cmpS pk qk) := by show _ = _; simp [ordE, hk]
  have yK : (pk.toList == qk.toList) = false := by rw [beq_eq_false_iff_ne]; exact hk
  have hc2 := scompare_any pk qk ((w.alloc (.cells #[.string pk, .int .i64 ek, .bool eb, .int .i64 ei, .string es, .slice eal enl ecl, .slice eam enm ecm] 57)).alloc (.cells #[.string qk, .int .i64 fk, .bool fb, .int .i64 fi, .string fs, .slice fal fnl fcl, .slice fam fnm fcm] 57))
  generalize cmpS pk qk = c at *
  clear hc
  go_enter Tryd.func81, Tryd.ntmps81
  go_wp2_with fail
  refine hc2.mono ?_
  rintro e w3 ⟨rfl, b3⟩
  go_wp2_with fail
  go_ret
  rw [HF.out]
  exact ⟨rfl, B2.trans (b3.mono (by omega))⟩
set_option maxHeartbeats 8000000 in
set_option maxRecDepth 100000 in
theorem order_any (v : V) : ∀ (u : V) (R R' : Bool) (S S' : Nat → Prop) (cs cs' : List Value) (w : World), v.lies R w S cs → u.lies R' w S' cs' → (∀ b, S b → b < w.heap.size) → (∀ b, S' b → b < w.heap.size) →
 Calls Tryd.prog 73 #[.agg cs.toArray, .agg cs'.toArray] w (JPost (ordV v u) w) := by
 induction v using V.ind_v with
 | h k b i s l m ihl ihm =>
 intro u R R' S S' cs cs' w hv hu hS hS'
 obtain ⟨k', b', i', s', l', m'⟩ := u
 rw [V.lies] at hv hu
 obtain ⟨al, cl, bl, ol, am, cm, bm, om, rfl, hk, hi, hs, hal, ham, hl1, hm1, _⟩ := hv
 obtain ⟨al', cl', bl', ol', am', cm', bm', om', rfl, hk', hi', hs', hal', ham', hl1', hm1', _⟩ := hu
 have B2 : Below w.heap.size w ((w.alloc (.cells #[.int .i64 k, .bool b, .int .i64 i, .string s, .slice al l.length cl, .slice am m.length cm] 25)).alloc (.cells #[.int .i64 k', .bool b', .int .i64 i', .string s', .slice al' l'.length cl', .slice am' m'.length cm'] 25)) := ((Below.refl _ _).alloc (Nat.le_refl _) _).alloc (by rw [alloc_size]; omega) _
 have hz2 : ((w.alloc (.cells #[.int .i64 k, .bool b, .int .i64 i, .string s, .slice al l.length cl, .slice am m.length cm] 25)).alloc (.cells #[.int .i64 k', .bool b', .int .i64 i', .string s', .slice al' l'.length cl', .slice am' m'.length cm'] 25)).heap.size = w.heap.size + 2 := by rw [alloc_size, alloc_size]
 have g1 := alloc2_keep1 w (.cells #[.int .i64 k, .bool b, .int .i64 i, .string s, .slice al l.length cl, .slice am m.length cm] 25) (.cells #[.int .i64 k', .bool b', .int .i64 i', .string s', .slice al' l'.length cl', .slice am' m'.length cm'] 25)
 obtain ⟨m0, m1, m2, m3, m4, m5⟩ := sixC g1
 have HL : Hid (liesL R ((w.alloc (.cells #[.int .i64 k, .bool b, .int .i64 i, .string s, .slice al l.length cl, .slice am m.length cm] 25)).alloc (.cells #[.int .i64 k', .bool b', .int .i64 i', .string s', .slice al' l'.length cl', .slice am' m'.length cm'] 25)) S l bl ol) := liesL_keep (fun h => h) (fun x hx => B2.block x (hS x hx)) (fun _ h => h) _ hl1
 have HL' : Hid (liesL R' ((w.alloc (.cells #[.int .i64 k, .bool b, .int .i64 i, .string s, .slice al l.length cl, .slice am m.length cm] 25)).alloc (.cells #[.int .i64 k', .bool b', .int .i64 i', .string s', .slice al' l'.length cl', .slice am' m'.length cm'] 25)) S' l' bl' ol') := liesL_keep (fun h => h) (fun x hx => B2.block x (hS' x hx)) (fun _ h => h) _ hl1'
 have HM : Hid (liesM R ((w.alloc (.cells #[.int .i64 k, .bool b, .int .i64 i, .string s, .slice al l.length cl, .slice am m.length cm] 25)).alloc (.cells #[.int .i64 k', .bool b', .int .i64 i', .string s', .slice al' l'.length cl', .slice am' m'.length cm'] 25)) S m bm om) := liesM_keep (fun h => h) (fun x hx => B2.block x (hS x hx)) (fun _ h => h) _ hm1
 have HM' : Hid (liesM R' ((w.alloc (.cells #[.int .i64 k, .bool b, .int .i64 i, .string s, .slice al l.length cl, .slice am m.length cm] 25)).alloc (.cells #[.int .i64 k', .bool b', .int .i64 i', .string s', .slice al' l'.length cl', .slice am' m'.length cm'] 25)) S' m' bm' om') := liesM_keep (fun h => h) (fun x hx => B2.block x (hS' x hx)) (fun _ h => h) _ hm1'
 have HS : Hid ((∀ x, S x → x < ((w.alloc (.cells #[.int .i64 k, .bool b, .int .i64 i, .string s, .slice al l.length cl, .slice am m.length cm] 25)).alloc (.cells #[.int .i64 k', .bool b', .int .i64 i', .string s', .slice al' l'.length cl', .slice am' m'.length cm'] 25)).heap.size) ∧ (∀ x, S' x → x < ((w.alloc (.cells #[.int .i64 k, .bool b, .int .i64 i, .string s, .slice al l.length cl, .slice am m.length cm] 25)).alloc (.cells #[.int .i64 k', .bool b', .int .i64 i', .string s', .slice al' l'.length cl', .slice am' m'.length cm'] 25)).heap.size)) := ⟨fun x hx => by have := hS x hx; omega, fun x hx => by have := hS' x hx; omega⟩
 obtain ⟨WW, hWW⟩ : ∃ WW, WW = ((w.alloc (.cells #[.int .i64 k, .bool b, .int .i64 i, .string s, .slice al l.length cl, .slice am m.length cm] 25)).alloc (.cells #[.int .i64 k', .bool b', .int .i64 i', .string s', .slice al' l'.length cl', .slice am' m'.length cm'] 25)) := ⟨_, rfl⟩
 have IHL : Hid _ := ihl
 have IHM : Hid _ := ihm
 clear hl1 hl1' hm1 hm1' ihl ihm hS hS' g1
 by_cases hkk : k = k'
 ·subst hkk
  by_cases h1 : k = 1
  ·have hc := bcompare_any b b' WW
   subst h1
   have HF : Hid (ordV (V.mk 1 b i s l m) (V.mk 1 b' i' s' l' m') = cmpB b b') := by show _ = _; simp [ordV]
   subst hWW
   generalize cmpB b b' = c at *
   go_enter Tryd.func73, Tryd.ntmps73
   go_wp2_with fail
   refine hc.mono ?_
   rintro e w3 ⟨rfl, b3⟩
   go_wp2_with fail
   go_ret
   rw [HF.out]
   exact ⟨rfl, B2.trans (b3.mono (by omega))⟩
  by_cases h2 : k = 2
  ·have hc := icompare_any i i' WW
   subst h2
   have HF : Hid (ordV (V.mk 2 b i s l m) (V.mk 2 b' i' s' l' m') = cmpI i i') := by show _ = _; simp [ordV]
   subst hWW
   generalize cmpI i i' = c at *
   go_enter Tryd.func73, Tryd.ntmps73
   go_wp2_with fail
   refine hc.mono ?_
   rintro e w3 ⟨rfl, b3⟩
   go_wp2_with fail
   go_ret
   rw [HF.out]
   exact ⟨rfl, B2.trans (b3.mono (by omega))⟩
  by_cases h3 : k = 3
  ·have hc := scompare_any s s' WW
   subst h3
   have HF : Hid (ordV (V.mk 3 b i s l m) (V.mk 3 b' i' s' l' m') = cmpS s s') := by show _ = _; simp [ordV]
   subst hWW
   generalize cmpS s s' = c at *
   go_enter Tryd.func73, Tryd.ntmps73
   go_wp2_with fail
   refine hc.mono ?_
   rintro e w3 ⟨rfl, b3⟩
   go_wp2_with fail
   go_ret
   rw [HF.out]
   exact ⟨rfl, B2.trans (b3.mono (by omega))⟩
  by_cases h4 : k = 4
  ·have hc := cmpfL l l' R R' S S' al al' cl cl' bl ol bl' ol' _ hal hal' HL.out HL'.out HS.out.1 HS.out.2 (fun j h h' cs cs' W h1 h2 h3 h4 => IHL.out l[j] (List.getElem_mem h) l'[j] R R' S S' cs cs' W h1 h2 h3 h4)
   subst h4
   have HF : Hid (ordV (V.mk 4 b i s l m) (V.mk 4 b' i' s' l' m') = ordL l l') := by show _ = _; simp [ordV]
   subst hWW
   generalize ordL l l' = c at *
   go_enter Tryd.func73, Tryd.ntmps73
   go_wp2_with fail
   refine hc.mono ?_
   rintro e w3 ⟨rfl, b3⟩
   go_wp2_with fail
   go_ret
   rw [HF.out]
   exact ⟨rfl, B2.trans (b3.mono (by omega))⟩
  by_cases h5 : k = 5
  ·have hc := cmpfM m m' R R' S S' am am' cm cm' bm om bm' om' _ ham ham' HM.out HM'.out HS.out.1 HS.out.2 (fun j h h' cs cs' W h1 h2 h3 h4 => orderMem_any m[j] m'[j] cs cs' W (V.ten h1) (V.ten h2) (fun W2 hb => IHM.out m[j] (List.getElem_mem h) (m'[j]).2 R R' S S' cs cs' W2 (V.lies_keep (fun h => h) (fun x hx => hb.block x (h3 x hx)) (fun _ h => h) _ h1) (V.lies_keep (fun h => h) (fun x hx => hb.block x (h4 x hx)) (fun _ h => h) _ h2) (fun x hx => Nat.lt_of_lt_of_le (h3 x hx) hb.size) (fun x hx => Nat.lt_of_lt_of_le (h4 x hx) hb.size)))
   subst h5
   have HF : Hid (ordV (V.mk 5 b i s l m) (V.mk 5 b' i' s' l' m') = ordM m m') := by show _ = _; simp [ordV]
   subst hWW
   generalize ordM m m' = c at *
   go_enter Tryd.func73, Tryd.ntmps73
   go_wp2_with fail
   refine hc.mono ?_
   rintro e w3 ⟨rfl, b3⟩
   go_wp2_with fail
   go_ret
   rw [HF.out]
   exact ⟨rfl, B2.trans (b3.mono (by omega))⟩
  have HF : Hid (ordV (V.mk k b i s l m) (V.mk k b' i' s' l' m') = 0) := by show _ = _; simp [ordV, h1, h2, h3, h4, h5]
  go_enter Tryd.func73, Tryd.ntmps73
  go_wp2_with fail
  go_ret
  rw [HF.out]
  exact ⟨rfl, B2⟩
 ·have HF : Hid (ordV (V.mk k b i s l m) (V.mk k' b' i' s' l' m') = cmpI k k') := by show _ = _; simp [ordV, hkk]
  have hc := icompare_any k k' WW
  subst hWW
  generalize cmpI k k' = c at *
  go_enter Tryd.func73, Tryd.ntmps73
  go_wp2_with fail
  refine hc.mono ?_
  rintro e w3 ⟨rfl, b3⟩
  go_wp2_with fail
  go_ret
  rw [HF.out]
  exact ⟨rfl, B2.trans (b3.mono (by omega))⟩
def eqlV (v u : V) : Bool := okV v && (okV u && decide (ordV v u = 0))
theorem beq_dec (c : Int) : (c == 0) = decide (c = 0) := by
 rw [Bool.eq_iff_iff, beq_iff_eq, decide_eq_true_iff]
set_option maxHeartbeats 8000000 in
set_option maxRecDepth 100000 in
theorem equal_any (v u : V) (R R' : Bool) (S S' : Nat → Prop) (cs cs' : List Value) (w : World) (tb : Tb w) (hv : v.lies R w S cs) (hu : u.lies R' w S' cs') (hS : ∀ b, S b → b < w.heap.size) (hS' : ∀ b, S' b → b < w.heap.size) (hwt : v.wt ≤ 1099511627776) (hwt' : u.wt ≤ 1099511627776) :
 Calls Tryd.prog 66 #[.agg cs.toArray, .agg cs'.toArray] w (BPost (eqlV v u) w) := by
 obtain ⟨ek, eb, ei, es, eal, enl, ecl, eam, enm, ecm, rfl⟩ := V.ten hv
 obtain ⟨fk, fb, fi, fs, fal, fnl, fcl, fam, fnm, fcm, rfl⟩ := V.ten hu
 have hz1 := alloc_size w (.cells #[.int .i64 ek, .bool eb, .int .i64 ei, .string es, .slice eal enl ecl, .slice eam enm ecm] 25)
 have hz2 : ((w.alloc (.cells #[.int .i64 ek, .bool eb, .int .i64 ei, .string es, .slice eal enl ecl, .slice eam enm ecm] 25)).alloc (.cells #[.int .i64 fk, .bool fb, .int .i64 fi, .string fs, .slice fal fnl fcl, .slice fam fnm fcm] 25)).heap.size = w.heap.size + 2 := by rw [alloc_size, alloc_size]
 have B2 : Below w.heap.size w ((w.alloc (.cells #[.int .i64 ek, .bool eb, .int .i64 ei, .string es, .slice eal enl ecl, .slice eam enm ecm] 25)).alloc (.cells #[.int .i64 fk, .bool fb, .int .i64 fi, .string fs, .slice fal fnl fcl, .slice fam fnm fcm] 25)) := ((Below.refl _ _).alloc (Nat.le_refl _) _).alloc (by omega) _
 have hbA : rowAt ((w.alloc (.cells #[.int .i64 ek, .bool eb, .int .i64 ei, .string es, .slice eal enl ecl, .slice eam enm ecm] 25)).alloc (.cells #[.int .i64 fk, .bool fb, .int .i64 fi, .string fs, .slice fal fnl fcl, .slice fam fnm fcm] 25)) w.heap.size 0 [.int .i64 ek, .bool eb, .int .i64 ei, .string es, .slice eal enl ecl, .slice eam enm ecm] := (box_row w [.int .i64 ek, .bool eb, .int .i64 ei, .string es, .slice eal enl ecl, .slice eam enm ecm] 25).keep (Below.heap_alloc (w.alloc (.cells #[.int .i64 ek, .bool eb, .int .i64 ei, .string es, .slice eal enl ecl, .slice eam enm ecm] 25)) (.cells #[.int .i64 fk, .bool fb, .int .i64 fi, .string fs, .slice fal fnl fcl, .slice fam fnm fcm] 25) w.heap.size (by omega))
 have hbB : rowAt ((w.alloc (.cells #[.int .i64 ek, .bool eb, .int .i64 ei, .string es, .slice eal enl ecl, .slice eam enm ecm] 25)).alloc (.cells #[.int .i64 fk, .bool fb, .int .i64 fi, .string fs, .slice fal fnl fcl, .slice fam fnm fcm] 25)) (w.heap.size + 1) 0 [.int .i64 fk, .bool fb, .int .i64 fi, .string fs, .slice fal fnl fcl, .slice fam fnm fcm] := by
  have h := box_row (w.alloc (.cells #[.int .i64 ek, .bool eb, .int .i64 ei, .string es, .slice eal enl ecl, .slice eam enm ecm] 25)) [.int .i64 fk, .bool fb, .int .i64 fi, .string fs, .slice fal fnl fcl, .slice fam fnm fcm] 25
  rw [hz1] at h
  exact h
 have HV : Hid (∀ W, Below w.heap.size w W → v.lies R W S [.int .i64 ek, .bool eb, .int .i64 ei, .string es, .slice eal enl ecl, .slice eam enm ecm] ∧ (∀ b, S b → b < W.heap.size)) := fun W hb => ⟨V.lies_keep (fun h => h) (fun x hx => hb.block x (hS x hx)) (fun _ h => h) _ hv, fun x hx => Nat.lt_of_lt_of_le (hS x hx) hb.size⟩
 have HU : Hid (∀ W, Below w.heap.size w W → u.lies R' W S' [.int .i64 fk, .bool fb, .int .i64 fi, .string fs, .slice fal fnl fcl, .slice fam fnm fcm] ∧ (∀ b, S' b → b < W.heap.size)) := fun W hb => ⟨V.lies_keep (fun h => h) (fun x hx => hb.block x (hS' x hx)) (fun _ h => h) _ hu, fun x hx => Nat.lt_of_lt_of_le (hS' x hx) hb.size⟩
 have HB : Hid (∀ W, Below w.heap.size w W → Tb W) := fun W hb => tb.below hb tb.z
 clear hv hu
 obtain ⟨d0, d1, d2, d3, d4, d5⟩ := row6z hbA
 go_enter Tryd.func66, Tryd.ntmps66
 go_wp2_with fail
 clear d0 d1 d2 d3 d4 d5
 generalize ((w.alloc (.cells #[.int .i64 ek, .bool eb, .int .i64 ei, .string es, .slice eal enl ecl, .slice eam enm ecm] 25)).alloc (.cells #[.int .i64 fk, .bool fb, .int .i64 fi, .string fs, .slice fal fnl fcl, .slice fam fnm fcm] 25)) = w0 at *
 refine (taken_any R v S _ w0 (HB.out w0 B2) (HV.out w0 B2).1 (HV.out w0 B2).2 hwt).mono ?_
 rintro e w1 ⟨rfl, b1⟩
 have hs1 := b1.size
 have B3 := B2.trans (b1.mono (by omega))
 have hbA1 := hbA.keep (b1.block _ (by omega))
 have hbB1 := hbB.keep (b1.block _ (by omega))
 obtain ⟨f0, f1, f2, f3, f4, f5⟩ := row6z hbB1
 cases ho : okV v with
 | false =>
  have HN : Hid (eqlV v u = false) := by show _ = _; simp [eqlV, ho]
  go_wp2_with fail
  go_ret
  rw [HN.out]
  exact ⟨rfl, B3⟩
 | true =>
  go_wp2_with fail
  refine (taken_any R' u S' _ w1 (HB.out w1 B3) (HU.out w1 B3).1 (HU.out w1 B3).2 hwt').mono ?_
  rintro e w2 ⟨rfl, b2⟩
  have hs2 := b2.size
  have B4 := B3.trans (b2.mono (by omega))
  obtain ⟨d0, d1, d2, d3, d4, d5⟩ := row6z (hbA1.keep (b2.block _ (by omega)))
  clear f0 f1 f2 f3 f4 f5
  obtain ⟨f0, f1, f2, f3, f4, f5⟩ := row6z (hbB1.keep (b2.block _ (by omega)))
  cases ho2 : okV u with
  | false =>
   have HN : Hid (eqlV v u = false) := by show _ = _; simp [eqlV, ho2]
   go_wp2_with fail
   go_ret
   rw [HN.out]
   exact ⟨rfl, B4⟩
  | true =>
   have hc := order_any v u R R' S S' _ _ w2 (HV.out w2 B4).1 (HU.out w2 B4).1 (HV.out w2 B4).2 (HU.out w2 B4).2
   skip
   have HY : Hid (eqlV v u = decide (ordV v u = 0)) := by show _ = _; simp [eqlV, ho, ho2]
   generalize ordV v u = c at *
   go_wp2_with fail
   refine hc.mono ?_
   rintro e w3 ⟨rfl, b3⟩
   go_wp2_with fail
   go_ret
   rw [HY.out]
   exact ⟨by simp only [beq_dec]; rfl, B4.trans (b3.mono (by omega))⟩
end Go.Proofs.YtjfldbmopjojdaaDoor
