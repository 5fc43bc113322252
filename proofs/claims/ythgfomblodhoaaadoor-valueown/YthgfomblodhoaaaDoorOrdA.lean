import Derived.Test.YthgfomblodhoaaaDoorG6
/- slices.CompareFunc over lists and over members. -/
set_option linter.unusedSimpArgs false
set_option linter.unusedVariables false
namespace Go.Proofs.YthgfomblodhoaaaDoor
open Go.RowKit Go.Lib
theorem alloc2_keep1 (w : World) (o o' : Obj) : ((w.alloc o).alloc o').heap[w.heap.size]? = some o := by
  have h := heap_alloc_new w o
  have hl := (Array.getElem?_eq_some_iff.1 h).1
  exact (Below.heap_alloc (w.alloc o) o' w.heap.size hl).trans h
set_option maxHeartbeats 4000000 in
set_option maxRecDepth 100000 in
theorem cmpfL (l l' : List V) (R R' : Bool) (S S' : Nat → Prop) (al al' : Option Addr) (cl cl' bl ol bl' ol' : Nat) (w : World) (hal : Headed al l.length cl bl ol) (hal' : Headed al' l'.length cl' bl' ol') (hl : liesL R w S l bl ol) (hl' : liesL R' w S' l' bl' ol') (hS : ∀ b, S b → b < w.heap.size) (hS' : ∀ b, S' b → b < w.heap.size)
    (ih : ∀ (j : Nat) (h : j < l.length) (h' : j < l'.length) (cs cs' : List Value) (W : World), (l[j]).lies R W S cs → (l'[j]).lies R' W S' cs' → (∀ b, S b → b < W.heap.size) → (∀ b, S' b → b < W.heap.size) → Calls Tryd.prog 46 #[.agg cs.toArray, .agg cs'.toArray] W (JPost (ordV l[j] l'[j]) W)) :
    Calls Tryd.prog 58 #[.slice al l.length cl, .slice al' l'.length cl', .func (.func 46) #[] #[]] w (JPost (ordL l l') w) := by
  have HL : Hid (liesL R w S l bl ol) := hl
  have HL' : Hid (liesL R' w S' l' bl' ol') := hl'
  have IH : Hid _ := ih
  clear hl hl' ih
  have hm1 : l.length ≤ 9223372036854775807 := Nat.le_trans hal.le hal.max
  have hm2 : l'.length ≤ 9223372036854775807 := Nat.le_trans hal'.le hal'.max
  go_enter Tryd.func58, Tryd.ntmps58
  go_wp2_with fail
  go_loopw [13] (fun e wr => ∃ j : Nat, j ≤ l.length ∧ j ≤ l'.length ∧ e = .int .i64 (j : Int) ∧ Hid (ordL l l' = ordL (l.drop j) (l'.drop j)) ∧ Below w.heap.size w wr) (fun e _ => l.length - (RowKit.intOf e).toNat)
  case atStart => exact ⟨0, by omega, by omega, rfl, rfl, Below.refl _ _⟩
  case round =>
    obtain ⟨j, hj, hj', rfl, HD, bj⟩ := hrel
    have hzr := bj.size
    by_cases hjl : j < l.length
    · have y1 : (j : Int) < l.length := by omega
      obtain ⟨hSb, csj, hrow, hlj⟩ := liesL_get HL.out j hjl
      obtain rfl : al = some ⟨bl, ol, none⟩ := hal.at_.resolve_left (by omega)
      have hkw : ∀ x, S x → wr.heap[x]? = w.heap[x]? := fun x hx => bj.block x (hS x hx)
      have hlj0 := hlj
      obtain ⟨ek, eb, ei, es, eal, enl, ecl, eam, enm, ecm, rfl⟩ := V.ten hlj
      obtain ⟨q0, q1, q2, q3, q4, q5⟩ := row6 (hrow.keep (hkw _ hSb))
      by_cases hjm : j < l'.length
      · have y2 : ¬ (j : Int) ≥ l'.length := by omega
        obtain ⟨hSb', csj', hrow', hlj'⟩ := liesL_get HL'.out j hjm
        obtain rfl : al' = some ⟨bl', ol', none⟩ := hal'.at_.resolve_left (by omega)
        have hkw' : ∀ x, S' x → wr.heap[x]? = w.heap[x]? := fun x hx => bj.block x (hS' x hx)
        have hlj0' := hlj'
        obtain ⟨fk, fb, fi, fs, fal, fnl, fcl, fam, fnm, fcm, rfl⟩ := V.ten hlj'
        obtain ⟨p0, p1, p2, p3, p4, p5⟩ := row6 (hrow'.keep (hkw' _ hSb'))
        have hbl' : bl' < wr.heap.size := by have := hS' _ hSb'; omega
        have hz1 := alloc_size wr (.cells #[.int .i64 ek, .bool eb, .int .i64 ei, .string es, .slice eal enl ecl, .slice eam enm ecm] 25)
        have p0' : ∀ o, (wr.alloc o).cell? ⟨bl', ol' + j * 6, none⟩ = some (.int .i64 fk) := fun o => (((Below.refl wr.heap.size wr).alloc (Nat.le_refl _) o).cell (p := ⟨bl', ol' + j * 6, none⟩) hbl').trans p0
        have p1' : ∀ o, (wr.alloc o).cell? ⟨bl', ol' + j * 6 + 1, none⟩ = some (.bool fb) := fun o => (((Below.refl wr.heap.size wr).alloc (Nat.le_refl _) o).cell (p := ⟨bl', ol' + j * 6 + 1, none⟩) hbl').trans p1
        have p2' : ∀ o, (wr.alloc o).cell? ⟨bl', ol' + j * 6 + 2, none⟩ = some (.int .i64 fi) := fun o => (((Below.refl wr.heap.size wr).alloc (Nat.le_refl _) o).cell (p := ⟨bl', ol' + j * 6 + 2, none⟩) hbl').trans p2
        have p3' : ∀ o, (wr.alloc o).cell? ⟨bl', ol' + j * 6 + 3, none⟩ = some (.string fs) := fun o => (((Below.refl wr.heap.size wr).alloc (Nat.le_refl _) o).cell (p := ⟨bl', ol' + j * 6 + 3, none⟩) hbl').trans p3
        have p4' : ∀ o, (wr.alloc o).cell? ⟨bl', ol' + j * 6 + 4, none⟩ = some (.slice fal fnl fcl) := fun o => (((Below.refl wr.heap.size wr).alloc (Nat.le_refl _) o).cell (p := ⟨bl', ol' + j * 6 + 4, none⟩) hbl').trans p4
        have p5' : ∀ o, (wr.alloc o).cell? ⟨bl', ol' + j * 6 + 5, none⟩ = some (.slice fam fnm fcm) := fun o => (((Below.refl wr.heap.size wr).alloc (Nat.le_refl _) o).cell (p := ⟨bl', ol' + j * 6 + 5, none⟩) hbl').trans p5
        have B2 : Below wr.heap.size wr ((wr.alloc (.cells #[.int .i64 ek, .bool eb, .int .i64 ei, .string es, .slice eal enl ecl, .slice eam enm ecm] 25)).alloc (.cells #[.int .i64 fk, .bool fb, .int .i64 fi, .string fs, .slice fal fnl fcl, .slice fam fnm fcm] 25)) := ((Below.refl _ _).alloc (Nat.le_refl _) _).alloc (by omega) _
        have hz2 : ((wr.alloc (.cells #[.int .i64 ek, .bool eb, .int .i64 ei, .string es, .slice eal enl ecl, .slice eam enm ecm] 25)).alloc (.cells #[.int .i64 fk, .bool fb, .int .i64 fi, .string fs, .slice fal fnl fcl, .slice fam fnm fcm] 25)).heap.size = wr.heap.size + 2 := by rw [alloc_size, hz1]
        have g1 := alloc2_keep1 wr (.cells #[.int .i64 ek, .bool eb, .int .i64 ei, .string es, .slice eal enl ecl, .slice eam enm ecm] 25) (.cells #[.int .i64 fk, .bool fb, .int .i64 fi, .string fs, .slice fal fnl fcl, .slice fam fnm fcm] 25)
        have hc : Calls Tryd.prog 46 #[.agg #[.int .i64 ek, .bool eb, .int .i64 ei, .string es, .slice eal enl ecl, .slice eam enm ecm], .agg #[.int .i64 fk, .bool fb, .int .i64 fi, .string fs, .slice fal fnl fcl, .slice fam fnm fcm]] ((wr.alloc (.cells #[.int .i64 ek, .bool eb, .int .i64 ei, .string es, .slice eal enl ecl, .slice eam enm ecm] 25)).alloc (.cells #[.int .i64 fk, .bool fb, .int .i64 fi, .string fs, .slice fal fnl fcl, .slice fam fnm fcm] 25)) (JPost (ordV l[j] l'[j]) ((wr.alloc (.cells #[.int .i64 ek, .bool eb, .int .i64 ei, .string es, .slice eal enl ecl, .slice eam enm ecm] 25)).alloc (.cells #[.int .i64 fk, .bool fb, .int .i64 fi, .string fs, .slice fal fnl fcl, .slice fam fnm fcm] 25))) := by
          have h0 := IH.out j hjl hjm _ _ ((wr.alloc (.cells #[.int .i64 ek, .bool eb, .int .i64 ei, .string es, .slice eal enl ecl, .slice eam enm ecm] 25)).alloc (.cells #[.int .i64 fk, .bool fb, .int .i64 fi, .string fs, .slice fal fnl fcl, .slice fam fnm fcm] 25)) (V.lies_keep (fun h => h) (fun x hx => (B2.block x (by have := hS x hx; omega)).trans (hkw x hx)) (fun _ h => h) _ hlj0) (V.lies_keep (fun h => h) (fun x hx => (B2.block x (by have := hS' x hx; omega)).trans (hkw' x hx)) (fun _ h => h) _ hlj0') (fun x hx => by have := hS x hx; omega) (fun x hx => by have := hS' x hx; omega)
          exact h0
        have m0 : ((wr.alloc (.cells #[.int .i64 ek, .bool eb, .int .i64 ei, .string es, .slice eal enl ecl, .slice eam enm ecm] 25)).alloc (.cells #[.int .i64 fk, .bool fb, .int .i64 fi, .string fs, .slice fal fnl fcl, .slice fam fnm fcm] 25)).cell? ⟨wr.heap.size, 0, none⟩ = some (.int .i64 ek) := by rw [cell_of_block g1]; rfl
        have m1 : ((wr.alloc (.cells #[.int .i64 ek, .bool eb, .int .i64 ei, .string es, .slice eal enl ecl, .slice eam enm ecm] 25)).alloc (.cells #[.int .i64 fk, .bool fb, .int .i64 fi, .string fs, .slice fal fnl fcl, .slice fam fnm fcm] 25)).cell? ⟨wr.heap.size, 1, none⟩ = some (.bool eb) := by rw [cell_of_block g1]; rfl
        have m2 : ((wr.alloc (.cells #[.int .i64 ek, .bool eb, .int .i64 ei, .string es, .slice eal enl ecl, .slice eam enm ecm] 25)).alloc (.cells #[.int .i64 fk, .bool fb, .int .i64 fi, .string fs, .slice fal fnl fcl, .slice fam fnm fcm] 25)).cell? ⟨wr.heap.size, 2, none⟩ = some (.int .i64 ei) := by rw [cell_of_block g1]; rfl
        have m3 : ((wr.alloc (.cells #[.int .i64 ek, .bool eb, .int .i64 ei, .string es, .slice eal enl ecl, .slice eam enm ecm] 25)).alloc (.cells #[.int .i64 fk, .bool fb, .int .i64 fi, .string fs, .slice fal fnl fcl, .slice fam fnm fcm] 25)).cell? ⟨wr.heap.size, 3, none⟩ = some (.string es) := by rw [cell_of_block g1]; rfl
        have m4 : ((wr.alloc (.cells #[.int .i64 ek, .bool eb, .int .i64 ei, .string es, .slice eal enl ecl, .slice eam enm ecm] 25)).alloc (.cells #[.int .i64 fk, .bool fb, .int .i64 fi, .string fs, .slice fal fnl fcl, .slice fam fnm fcm] 25)).cell? ⟨wr.heap.size, 4, none⟩ = some (.slice eal enl ecl) := by rw [cell_of_block g1]; rfl
        have m5 : ((wr.alloc (.cells #[.int .i64 ek, .bool eb, .int .i64 ei, .string es, .slice eal enl ecl, .slice eam enm ecm] 25)).alloc (.cells #[.int .i64 fk, .bool fb, .int .i64 fi, .string fs, .slice fal fnl fcl, .slice fam fnm fcm] 25)).cell? ⟨wr.heap.size, 5, none⟩ = some (.slice eam enm ecm) := by rw [cell_of_block g1]; rfl
        have HX := ordL_drop hjl hjm
        generalize ordV l[j] l'[j] = c at *
        clear hlj hlj0 hlj' hlj0' hrow hrow' hkw hkw' p0 p1 p2 p3 p4 p5 hS hS' g1
        go_wp2_with fail
        refine hc.mono ?_
        rintro e w3 ⟨rfl, b3⟩
        have B3 := bj.trans ((B2.mono hzr).trans (b3.mono (by omega)))
        by_cases hc0 : c = 0
        · subst hc0
          have HD2 : Hid (ordL l l' = ordL (l.drop (j + 1)) (l'.drop (j + 1))) := by show _ = _; rw [HD.out, HX, if_pos rfl]
          clear HX HD
          go_wp2_with fail
          go_roundw
          case rel => exact ⟨j + 1, by omega, by omega, by go_num, HD2.out, B3⟩
          case measure => simp [RowKit.intOf]; omega
        · have HD2 : Hid (ordL l l' = c) := by show _ = _; rw [HD.out, HX, if_neg hc0]
          clear HX HD
          go_wp2_with fail
          go_ret
          rw [HD2.out]
          exact ⟨rfl, B3⟩
      · have y2 : (j : Int) ≥ l'.length := by omega
        have HD2 : Hid (ordL l l' = 1) := by show _ = _; rw [HD.out, ordL_long hjl (by omega)]
        clear HD
        go_wp2_with fail
        go_ret
        rw [HD2.out]
        exact ⟨rfl, bj.alloc hzr _⟩
    · obtain rfl : j = l.length := by omega
      have y1 : ¬ (l.length : Int) < l.length := by omega
      have HD2 : Hid (ordL l l' = if l.length < l'.length then -1 else 0) := by show _ = _; rw [HD.out, ordL_end hj']
      clear HD
      by_cases hlt : l.length < l'.length
      · have y2 : (l.length : Int) < l'.length := by omega
        go_wp2_with fail
        go_ret
        rw [HD2.out, if_pos hlt]
        exact ⟨rfl, bj⟩
      · have y2 : ¬ (l.length : Int) < l'.length := by omega
        go_wp2_with fail
        go_ret
        rw [HD2.out, if_neg hlt]
        exact ⟨rfl, bj⟩
set_option maxHeartbeats 4000000 in
set_option maxRecDepth 100000 in
theorem cmpfM (l l' : List Mem) (R R' : Bool) (S S' : Nat → Prop) (al al' : Option Addr) (cl cl' bl ol bl' ol' : Nat) (w : World) (hal : Headed al l.length cl bl ol) (hal' : Headed al' l'.length cl' bl' ol') (hl : liesM R w S l bl ol) (hl' : liesM R' w S' l' bl' ol') (hS : ∀ b, S b → b < w.heap.size) (hS' : ∀ b, S' b → b < w.heap.size)
    (ih : ∀ (j : Nat) (h : j < l.length) (h' : j < l'.length) (cs cs' : List Value) (W : World), (l[j]).2.lies R W S cs → (l'[j]).2.lies R' W S' cs' → (∀ b, S b → b < W.heap.size) → (∀ b, S' b → b < W.heap.size) → Calls Tryd.prog 60 #[.agg (.string (l[j]).1 :: cs).toArray, .agg (.string (l'[j]).1 :: cs').toArray] W (JPost (ordE l[j] l'[j]) W)) :
    Calls Tryd.prog 59 #[.slice al l.length cl, .slice al' l'.length cl', .func (.func 60) #[] #[]] w (JPost (ordM l l') w) := by
  have HL : Hid (liesM R w S l bl ol) := hl
  have HL' : Hid (liesM R' w S' l' bl' ol') := hl'
  have IH : Hid _ := ih
  clear hl hl' ih
  have hm1 : l.length ≤ 9223372036854775807 := Nat.le_trans hal.le hal.max
  have hm2 : l'.length ≤ 9223372036854775807 := Nat.le_trans hal'.le hal'.max
  go_enter Tryd.func59, Tryd.ntmps59
  go_wp2_with fail
  go_loopw [13] (fun e wr => ∃ j : Nat, j ≤ l.length ∧ j ≤ l'.length ∧ e = .int .i64 (j : Int) ∧ Hid (ordM l l' = ordM (l.drop j) (l'.drop j)) ∧ Below w.heap.size w wr) (fun e _ => l.length - (RowKit.intOf e).toNat)
  case atStart => exact ⟨0, by omega, by omega, rfl, rfl, Below.refl _ _⟩
  case round =>
    obtain ⟨j, hj, hj', rfl, HD, bj⟩ := hrel
    have hzr := bj.size
    by_cases hjl : j < l.length
    · have y1 : (j : Int) < l.length := by omega
      obtain ⟨hSb, hks, csj, hrow, hlj⟩ := liesM_get HL.out j hjl
      obtain rfl : al = some ⟨bl, ol, none⟩ := hal.at_.resolve_left (by omega)
      have hkw : ∀ x, S x → wr.heap[x]? = w.heap[x]? := fun x hx => bj.block x (hS x hx)
      have hlj0 := hlj
      obtain ⟨ek, eb, ei, es, eal, enl, ecl, eam, enm, ecm, rfl⟩ := V.ten hlj
      obtain ⟨ekey, hek⟩ : ∃ ekey, (l[j]).1 = ekey := ⟨_, rfl⟩
      rw [hek] at hrow
      obtain ⟨q, q0, q1, q2, q3, q4, q5⟩ := row7 (hrow.keep (hkw _ hSb))
      by_cases hjm : j < l'.length
      · have y2 : ¬ (j : Int) ≥ l'.length := by omega
        obtain ⟨hSb', hks', csj', hrow', hlj'⟩ := liesM_get HL'.out j hjm
        obtain rfl : al' = some ⟨bl', ol', none⟩ := hal'.at_.resolve_left (by omega)
        have hkw' : ∀ x, S' x → wr.heap[x]? = w.heap[x]? := fun x hx => bj.block x (hS' x hx)
        have hlj0' := hlj'
        obtain ⟨fk, fb, fi, fs, fal, fnl, fcl, fam, fnm, fcm, rfl⟩ := V.ten hlj'
        obtain ⟨fkey, hfk⟩ : ∃ fkey, (l'[j]).1 = fkey := ⟨_, rfl⟩
        rw [hfk] at hrow'
        obtain ⟨p, p0, p1, p2, p3, p4, p5⟩ := row7 (hrow'.keep (hkw' _ hSb'))
        have hbl' : bl' < wr.heap.size := by have := hS' _ hSb'; omega
        have hz1 := alloc_size wr (.cells #[.string ekey, .int .i64 ek, .bool eb, .int .i64 ei, .string es, .slice eal enl ecl, .slice eam enm ecm] 38)
        have p' : ∀ o, (wr.alloc o).cell? ⟨bl', ol' + j * 7, none⟩ = some (.string fkey) := fun o => (((Below.refl wr.heap.size wr).alloc (Nat.le_refl _) o).cell (p := ⟨bl', ol' + j * 7, none⟩) hbl').trans p
        have p0' : ∀ o, (wr.alloc o).cell? ⟨bl', ol' + j * 7 + 1, none⟩ = some (.int .i64 fk) := fun o => (((Below.refl wr.heap.size wr).alloc (Nat.le_refl _) o).cell (p := ⟨bl', ol' + j * 7 + 1, none⟩) hbl').trans p0
        have p1' : ∀ o, (wr.alloc o).cell? ⟨bl', ol' + j * 7 + 2, none⟩ = some (.bool fb) := fun o => (((Below.refl wr.heap.size wr).alloc (Nat.le_refl _) o).cell (p := ⟨bl', ol' + j * 7 + 2, none⟩) hbl').trans p1
        have p2' : ∀ o, (wr.alloc o).cell? ⟨bl', ol' + j * 7 + 3, none⟩ = some (.int .i64 fi) := fun o => (((Below.refl wr.heap.size wr).alloc (Nat.le_refl _) o).cell (p := ⟨bl', ol' + j * 7 + 3, none⟩) hbl').trans p2
        have p3' : ∀ o, (wr.alloc o).cell? ⟨bl', ol' + j * 7 + 4, none⟩ = some (.string fs) := fun o => (((Below.refl wr.heap.size wr).alloc (Nat.le_refl _) o).cell (p := ⟨bl', ol' + j * 7 + 4, none⟩) hbl').trans p3
        have p4' : ∀ o, (wr.alloc o).cell? ⟨bl', ol' + j * 7 + 5, none⟩ = some (.slice fal fnl fcl) := fun o => (((Below.refl wr.heap.size wr).alloc (Nat.le_refl _) o).cell (p := ⟨bl', ol' + j * 7 + 5, none⟩) hbl').trans p4
        have p5' : ∀ o, (wr.alloc o).cell? ⟨bl', ol' + j * 7 + 6, none⟩ = some (.slice fam fnm fcm) := fun o => (((Below.refl wr.heap.size wr).alloc (Nat.le_refl _) o).cell (p := ⟨bl', ol' + j * 7 + 6, none⟩) hbl').trans p5
        have B2 : Below wr.heap.size wr ((wr.alloc (.cells #[.string ekey, .int .i64 ek, .bool eb, .int .i64 ei, .string es, .slice eal enl ecl, .slice eam enm ecm] 38)).alloc (.cells #[.string fkey, .int .i64 fk, .bool fb, .int .i64 fi, .string fs, .slice fal fnl fcl, .slice fam fnm fcm] 38)) := ((Below.refl _ _).alloc (Nat.le_refl _) _).alloc (by omega) _
        have hz2 : ((wr.alloc (.cells #[.string ekey, .int .i64 ek, .bool eb, .int .i64 ei, .string es, .slice eal enl ecl, .slice eam enm ecm] 38)).alloc (.cells #[.string fkey, .int .i64 fk, .bool fb, .int .i64 fi, .string fs, .slice fal fnl fcl, .slice fam fnm fcm] 38)).heap.size = wr.heap.size + 2 := by rw [alloc_size, hz1]
        have g1 := alloc2_keep1 wr (.cells #[.string ekey, .int .i64 ek, .bool eb, .int .i64 ei, .string es, .slice eal enl ecl, .slice eam enm ecm] 38) (.cells #[.string fkey, .int .i64 fk, .bool fb, .int .i64 fi, .string fs, .slice fal fnl fcl, .slice fam fnm fcm] 38)
        have hc : Calls Tryd.prog 60 #[.agg #[.string ekey, .int .i64 ek, .bool eb, .int .i64 ei, .string es, .slice eal enl ecl, .slice eam enm ecm], .agg #[.string fkey, .int .i64 fk, .bool fb, .int .i64 fi, .string fs, .slice fal fnl fcl, .slice fam fnm fcm]] ((wr.alloc (.cells #[.string ekey, .int .i64 ek, .bool eb, .int .i64 ei, .string es, .slice eal enl ecl, .slice eam enm ecm] 38)).alloc (.cells #[.string fkey, .int .i64 fk, .bool fb, .int .i64 fi, .string fs, .slice fal fnl fcl, .slice fam fnm fcm] 38)) (JPost (ordE l[j] l'[j]) ((wr.alloc (.cells #[.string ekey, .int .i64 ek, .bool eb, .int .i64 ei, .string es, .slice eal enl ecl, .slice eam enm ecm] 38)).alloc (.cells #[.string fkey, .int .i64 fk, .bool fb, .int .i64 fi, .string fs, .slice fal fnl fcl, .slice fam fnm fcm] 38))) := by
          have h0 := IH.out j hjl hjm _ _ ((wr.alloc (.cells #[.string ekey, .int .i64 ek, .bool eb, .int .i64 ei, .string es, .slice eal enl ecl, .slice eam enm ecm] 38)).alloc (.cells #[.string fkey, .int .i64 fk, .bool fb, .int .i64 fi, .string fs, .slice fal fnl fcl, .slice fam fnm fcm] 38)) (V.lies_keep (fun h => h) (fun x hx => (B2.block x (by have := hS x hx; omega)).trans (hkw x hx)) (fun _ h => h) _ hlj0) (V.lies_keep (fun h => h) (fun x hx => (B2.block x (by have := hS' x hx; omega)).trans (hkw' x hx)) (fun _ h => h) _ hlj0') (fun x hx => by have := hS x hx; omega) (fun x hx => by have := hS' x hx; omega)
          rw [hek, hfk] at h0; exact h0
        have m0 : ((wr.alloc (.cells #[.string ekey, .int .i64 ek, .bool eb, .int .i64 ei, .string es, .slice eal enl ecl, .slice eam enm ecm] 38)).alloc (.cells #[.string fkey, .int .i64 fk, .bool fb, .int .i64 fi, .string fs, .slice fal fnl fcl, .slice fam fnm fcm] 38)).cell? ⟨wr.heap.size, 0, none⟩ = some (.string ekey) := by rw [cell_of_block g1]; rfl
        have m1 : ((wr.alloc (.cells #[.string ekey, .int .i64 ek, .bool eb, .int .i64 ei, .string es, .slice eal enl ecl, .slice eam enm ecm] 38)).alloc (.cells #[.string fkey, .int .i64 fk, .bool fb, .int .i64 fi, .string fs, .slice fal fnl fcl, .slice fam fnm fcm] 38)).cell? ⟨wr.heap.size, 1, none⟩ = some (.int .i64 ek) := by rw [cell_of_block g1]; rfl
        have m2 : ((wr.alloc (.cells #[.string ekey, .int .i64 ek, .bool eb, .int .i64 ei, .string es, .slice eal enl ecl, .slice eam enm ecm] 38)).alloc (.cells #[.string fkey, .int .i64 fk, .bool fb, .int .i64 fi, .string fs, .slice fal fnl fcl, .slice fam fnm fcm] 38)).cell? ⟨wr.heap.size, 2, none⟩ = some (.bool eb) := by rw [cell_of_block g1]; rfl
        have m3 : ((wr.alloc (.cells #[.string ekey, .int .i64 ek, .bool eb, .int .i64 ei, .string es, .slice eal enl ecl, .slice eam enm ecm] 38)).alloc (.cells #[.string fkey, .int .i64 fk, .bool fb, .int .i64 fi, .string fs, .slice fal fnl fcl, .slice fam fnm fcm] 38)).cell? ⟨wr.heap.size, 3, none⟩ = some (.int .i64 ei) := by rw [cell_of_block g1]; rfl
        have m4 : ((wr.alloc (.cells #[.string ekey, .int .i64 ek, .bool eb, .int .i64 ei, .string es, .slice eal enl ecl, .slice eam enm ecm] 38)).alloc (.cells #[.string fkey, .int .i64 fk, .bool fb, .int .i64 fi, .string fs, .slice fal fnl fcl, .slice fam fnm fcm] 38)).cell? ⟨wr.heap.size, 4, none⟩ = some (.string es) := by rw [cell_of_block g1]; rfl
        have m5 : ((wr.alloc (.cells #[.string ekey, .int .i64 ek, .bool eb, .int .i64 ei, .string es, .slice eal enl ecl, .slice eam enm ecm] 38)).alloc (.cells #[.string fkey, .int .i64 fk, .bool fb, .int .i64 fi, .string fs, .slice fal fnl fcl, .slice fam fnm fcm] 38)).cell? ⟨wr.heap.size, 5, none⟩ = some (.slice eal enl ecl) := by rw [cell_of_block g1]; rfl
        have m6 : ((wr.alloc (.cells #[.string ekey, .int .i64 ek, .bool eb, .int .i64 ei, .string es, .slice eal enl ecl, .slice eam enm ecm] 38)).alloc (.cells #[.string fkey, .int .i64 fk, .bool fb, .int .i64 fi, .string fs, .slice fal fnl fcl, .slice fam fnm fcm] 38)).cell? ⟨wr.heap.size, 6, none⟩ = some (.slice eam enm ecm) := by rw [cell_of_block g1]; rfl
        have HX := ordM_drop hjl hjm
        generalize ordE l[j] l'[j] = c at *
        clear hlj hlj0 hlj' hlj0' hrow hrow' hkw hkw' p p0 p1 p2 p3 p4 p5 hS hS' g1
        go_wp2_with fail
        refine hc.mono ?_
        rintro e w3 ⟨rfl, b3⟩
        have B3 := bj.trans ((B2.mono hzr).trans (b3.mono (by omega)))
        by_cases hc0 : c = 0
        · subst hc0
          have HD2 : Hid (ordM l l' = ordM (l.drop (j + 1)) (l'.drop (j + 1))) := by show _ = _; rw [HD.out, HX, if_pos rfl]
          clear HX HD
          go_wp2_with fail
          go_roundw
          case rel => exact ⟨j + 1, by omega, by omega, by go_num, HD2.out, B3⟩
          case measure => simp [RowKit.intOf]; omega
        · have HD2 : Hid (ordM l l' = c) := by show _ = _; rw [HD.out, HX, if_neg hc0]
          clear HX HD
          go_wp2_with fail
          go_ret
          rw [HD2.out]
          exact ⟨rfl, B3⟩
      · have y2 : (j : Int) ≥ l'.length := by omega
        have HD2 : Hid (ordM l l' = 1) := by show _ = _; rw [HD.out, ordM_long hjl (by omega)]
        clear HD
        go_wp2_with fail
        go_ret
        rw [HD2.out]
        exact ⟨rfl, bj.alloc hzr _⟩
    · obtain rfl : j = l.length := by omega
      have y1 : ¬ (l.length : Int) < l.length := by omega
      have HD2 : Hid (ordM l l' = if l.length < l'.length then -1 else 0) := by show _ = _; rw [HD.out, ordM_end hj']
      clear HD
      by_cases hlt : l.length < l'.length
      · have y2 : (l.length : Int) < l'.length := by omega
        go_wp2_with fail
        go_ret
        rw [HD2.out, if_pos hlt]
        exact ⟨rfl, bj⟩
      · have y2 : ¬ (l.length : Int) < l'.length := by omega
        go_wp2_with fail
        go_ret
        rw [HD2.out, if_neg hlt]
        exact ⟨rfl, bj⟩
end Go.Proofs.YthgfomblodhoaaaDoor
