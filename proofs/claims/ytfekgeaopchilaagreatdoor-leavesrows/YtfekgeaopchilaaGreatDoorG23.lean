/- joined: AllG CmpA -/
import Derived.Test.YtfekgeaopchilaaGreatDoorFrsA
/- What a value that is taken is, all the way down; there the two orders are one. -/
set_option linter.unusedSimpArgs false
set_option linter.unusedVariables false
namespace Go.Proofs.YtfekgeaopchilaaGreatDoor
open Go.RowKit Go.Lib
mutual
def allG : V → Prop
  | .mk k b i s l m => goodB k b i s l.length m = true ∧ allGL l ∧ allGM m
def allGL : List V → Prop
  | [] => True
  | x :: t => allG x ∧ allGL t
def allGM : List Mem → Prop
  | [] => True
  | (_, x) :: t => allG x ∧ allGM t
end
theorem entF_good {D n y d lv : Nat} {g : Bool} {z : Nat} (h : (entF D n y d lv g z).1 = 0) : g = true := by
  unfold entF at h
  split at h
  · simp at h
  split at h
  · simp at h
  split at h
  · simp at h
  · rename_i h3; cases g <;> simp_all
mutual
theorem chkV_allG (D : Nat) : ∀ (v : V) (lv : Nat) (st : St), (chkV D v lv st).1 = 0 → allG v
  | .mk k b i s l m, lv, st, h => by
    rw [chkV] at h
    rw [allG]
    by_cases h1 : (entF D st.1 st.2.1 st.2.2 lv (goodB k b i s l.length m) (s.size + keyB m)).1 = 0
    · simp only [h1, if_true] at h
      by_cases h2 : (chkL D l (lv + 1) (entF D st.1 st.2.1 st.2.2 lv (goodB k b i s l.length m) (s.size + keyB m)).2).1 = 0
      · simp only [h2, if_true] at h
        exact ⟨entF_good h1, chkL_allG D l (lv + 1) _ h2, chkM_allG D m (lv + 1) _ h⟩
      · simp only [h2, if_false] at h
    · simp only [h1, if_false] at h
theorem chkL_allG (D : Nat) : ∀ (l : List V) (lv : Nat) (st : St), (chkL D l lv st).1 = 0 → allGL l
  | [], lv, st, h => by rw [allGL]; trivial
  | x :: t, lv, st, h => by
    rw [chkL] at h
    rw [allGL]
    by_cases h1 : (chkV D x lv st).1 = 0
    · rw [if_pos h1] at h
      exact ⟨chkV_allG D x lv st h1, chkL_allG D t lv _ h⟩
    · rw [if_neg h1] at h
      exact absurd h h1
theorem chkM_allG (D : Nat) : ∀ (l : List Mem) (lv : Nat) (st : St), (chkM D l lv st).1 = 0 → allGM l
  | [], lv, st, h => by rw [allGM]; trivial
  | (_, x) :: t, lv, st, h => by
    rw [chkM] at h
    rw [allGM]
    by_cases h1 : (chkV D x lv st).1 = 0
    · rw [if_pos h1] at h
      exact ⟨chkV_allG D x lv st h1, chkM_allG D t lv _ h⟩
    · rw [if_neg h1] at h
      exact absurd h h1
end
theorem toList_data (a : ByteArray) : a.toList = a.data.toList := ByteArray.toList_eq a
theorem less_cmp : ∀ a b : List UInt8, Op.bytesLess a b = decide (compareBytes a b = -1)
  | [], [] => by simp [Op.bytesLess, compareBytes]
  | [], _ :: _ => by simp [Op.bytesLess, compareBytes]
  | _ :: _, [] => by simp [Op.bytesLess, compareBytes]
  | x :: t, y :: u => by
    have ih := less_cmp t u
    simp only [Op.bytesLess, compareBytes]
    by_cases h1 : x < y
    · simp [h1]
    · by_cases h2 : y < x
      · have hne : x ≠ y := fun e => by subst e; exact h1 h2
        simp [h1, h2, hne]
      · have he : x = y := by
          rcases Nat.lt_trichotomy x.toNat y.toNat with h | h | h
          · exact absurd h h1
          · exact UInt8.toNat_inj.1 h
          · exact absurd h h2
        subst he
        simp [h1, ih]
theorem cmp_zero : ∀ a b : List UInt8, compareBytes a b = 0 ↔ a = b
  | [], [] => by simp [compareBytes]
  | [], _ :: _ => by simp [compareBytes]
  | _ :: _, [] => by simp [compareBytes]
  | x :: t, y :: u => by
    have ih := cmp_zero t u
    rw [compareBytes]
    by_cases h1 : x < y
    · rw [if_pos h1]
      constructor
      · intro h; simp at h
      · intro h; cases h; exact absurd h1 (Nat.lt_irrefl _)
    · rw [if_neg h1]
      by_cases h2 : y < x
      · rw [if_pos h2]
        constructor
        · intro h; simp at h
        · intro h; cases h; exact absurd h2 (Nat.lt_irrefl _)
      · rw [if_neg h2, ih]
        have he : x = y := by
          rcases Nat.lt_trichotomy x.toNat y.toNat with h | h | h
          · exact absurd h h1
          · exact UInt8.toNat_inj.1 h
          · exact absurd h h2
        simp [he]
theorem cmpT_eq (a b : ByteArray) : cmpT a b = cmpS a b := by
  rw [cmpT, cmpS, ltB, less_cmp, toList_data, toList_data]
  have h0 := cmp_zero a.data.toList b.data.toList
  rcases cmp_one a.data.toList b.data.toList with h | h | h
  · simp [h]
  · rw [if_neg (by rw [h]; decide), if_pos (h0.1 h), h]
  · have : ¬ a.data.toList = b.data.toList := fun e => by rw [h0.2 e] at h; simp at h
    simp [h, this]
theorem cmpS_zero (a b : ByteArray) : cmpS a b = 0 ↔ a.toList = b.toList := by rw [cmpS, toList_data, toList_data]; exact cmp_zero _ _
theorem cmpI_self (a : Int) : cmpI a a = 0 := by simp [cmpI]
theorem cmpB_self (a : Bool) : cmpB a a = 0 := by simp [cmpB]
theorem goodB_plain {k : Int} {b : Bool} {i : Int} {s : ByteArray} {nl : Nat} {m : List Mem} (h : goodB k b i s nl m = true) : 0 ≤ k ∧ k ≤ 5 ∧ (k = 1 ∨ b = false) ∧ (k = 2 ∨ i = 0) ∧ (k = 3 ∨ s.toList.isEmpty = true) ∧ (k = 4 ∨ nl = 0) ∧ (k = 5 ∨ m.length = 0) := by
  simp only [goodB, Bool.and_eq_true, plainB, decide_eq_true_eq] at h
  exact h.1.1
theorem frsL_nil {l l' : List V} (h : l.length = 0) (h' : l'.length = 0) : frsL l l' = 0 := by
  rw [List.length_eq_zero_iff.1 h, List.length_eq_zero_iff.1 h', frsL]
theorem frsM_nil {l l' : List Mem} (h : l.length = 0) (h' : l'.length = 0) : frsM l l' = 0 := by
  rw [List.length_eq_zero_iff.1 h, List.length_eq_zero_iff.1 h', frsM]
mutual
theorem frs_ord : ∀ v u : V, allG v → allG u → frsV v u = ordV v u
  | .mk k b i s l m, .mk k' b' i' s' l' m', hv, hu => by
    rw [allG] at hv hu
    have p := goodB_plain hv.1
    have q := goodB_plain hu.1
    rw [frsV, ordV]
    by_cases hk : k = k'
    · subst hk
      simp only [if_true]
      have hL := frsL_ord l l' hv.2.1 hu.2.1
      have hM := frsM_ord m m' hv.2.2 hu.2.2
      have eb : k ≠ 1 → b = b' := fun h => by rw [p.2.2.1.resolve_left h, q.2.2.1.resolve_left h]
      have ei : k ≠ 2 → i = i' := fun h => by rw [p.2.2.2.1.resolve_left h, q.2.2.2.1.resolve_left h]
      have es : k ≠ 3 → s.toList = s'.toList := fun h => by
        rw [List.isEmpty_iff.1 (p.2.2.2.2.1.resolve_left h), List.isEmpty_iff.1 (q.2.2.2.2.1.resolve_left h)]
      have el : k ≠ 4 → frsL l l' = 0 := fun h => frsL_nil (p.2.2.2.2.2.1.resolve_left h) (q.2.2.2.2.2.1.resolve_left h)
      have em : k ≠ 5 → frsM m m' = 0 := fun h => frsM_nil (p.2.2.2.2.2.2.resolve_left h) (q.2.2.2.2.2.2.resolve_left h)
      by_cases h1 : k = 1
      · subst h1
        rw [if_pos (ei (by decide)), if_pos (es (by decide)), if_pos (el (by decide)), em (by decide)]
        simp only [if_true]
        by_cases hb : b = b'
        · rw [if_pos hb, hb, cmpB_self]
        · rw [if_neg hb]
      rw [if_pos (eb h1), if_neg h1]
      by_cases h2 : k = 2
      · subst h2
        rw [if_pos (es (by decide)), if_pos (el (by decide)), em (by decide)]
        simp only [if_true]
        by_cases hb : i = i'
        · rw [if_pos hb, hb, cmpI_self]
        · rw [if_neg hb]
      rw [if_pos (ei h2), if_neg h2]
      by_cases h3 : k = 3
      · subst h3
        rw [if_pos (el (by decide)), em (by decide)]
        simp only [if_true]
        by_cases hb : s.toList = s'.toList
        · rw [if_pos hb, (cmpS_zero s s').2 hb]
        · rw [if_neg hb, cmpT_eq]
      rw [if_pos (es h3), if_neg h3]
      by_cases h4 : k = 4
      · subst h4
        rw [em (by decide), ← hL]
        simp only [if_true]
        by_cases hb : frsL l l' = 0
        · rw [if_pos hb, hb]
        · rw [if_neg hb]
      rw [if_pos (el h4), if_neg h4]
      by_cases h5 : k = 5
      · rw [if_pos h5, hM]
      · rw [if_neg h5, em h5]
    · rw [if_neg hk, if_neg hk]
theorem frsL_ord : ∀ l u : List V, allGL l → allGL u → frsL l u = ordL l u
  | [], [], _, _ => by rw [frsL, ordL]
  | [], _ :: _, _, _ => by rw [frsL, ordL]
  | _ :: _, [], _, _ => by rw [frsL, ordL]
  | x :: t, y :: u, hl, hu => by
    rw [allGL] at hl hu
    rw [frsL, ordL, frs_ord x y hl.1 hu.1, frsL_ord t u hl.2 hu.2]
theorem frsM_ord : ∀ l u : List Mem, allGM l → allGM u → frsM l u = ordM l u
  | [], [], _, _ => by rw [frsM, ordM]
  | [], _ :: _, _, _ => by rw [frsM, ordM]
  | _ :: _, [], _, _ => by rw [frsM, ordM]
  | (k, x) :: t, (k', y) :: u, hl, hu => by
    rw [allGM] at hl hu
    rw [frsM, ordM, frs_ord x y hl.1 hu.1, frsM_ord t u hl.2 hu.2, cmpT_eq]
    by_cases hk : k.toList = k'.toList
    · rw [if_pos ((cmpS_zero k k').2 hk), if_pos hk]
    · have : ¬ cmpS k k' = 0 := fun e => hk ((cmpS_zero k k').1 e)
      rw [if_neg this, if_neg hk, if_neg this]
end
end Go.Proofs.YtfekgeaopchilaaGreatDoor
/- Compare, Equal and the document's; cleared. -/
namespace Go.Proofs.YtfekgeaopchilaaGreatDoor
open Go.RowKit Go.Lib
def cmpV (v u : V) : Int := if okV v = true ∧ okV u = true then ordV v u else 0
theorem cmpV_no1 {v u : V} (h : okV v = false) : cmpV v u = 0 := by rw [cmpV, if_neg]; rw [h]; simp
theorem cmpV_no2 {v u : V} (h : okV u = false) : cmpV v u = 0 := by rw [cmpV, if_neg]; rw [h]; simp
theorem cmpV_yes {v u : V} (h : okV v = true) (h' : okV u = true) : cmpV v u = ordV v u := by rw [cmpV, if_pos ⟨h, h'⟩]
theorem frs_of {v u : V} (h : okV v = true) (h' : okV u = true) : frsV v u = ordV v u := frs_ord v u (chkV_allG 40 v 0 _ (okV_true h)) (chkV_allG 40 u 0 _ (okV_true h'))
set_option maxHeartbeats 4000000 in
set_option maxRecDepth 100000 in
theorem rcompare_any (v u : V) (R R' : Bool) (S S' : Nat → Prop) (cs cs' : List Value) (w : World) (hv : v.lies R w S cs) (hu : u.lies R' w S' cs') (hS : ∀ b, S b → b < w.heap.size) (hS' : ∀ b, S' b → b < w.heap.size) (hwt : v.wt ≤ 1099511627776) (hwt' : u.wt ≤ 1099511627776) :
    Calls Tryz.prog 62 #[.agg cs.toArray, .agg cs'.toArray] w (JPost (cmpV v u) w) := by
  obtain ⟨ek, eb, ei, es, eal, enl, ecl, eam, enm, ecm, rfl⟩ := V.ten hv
  obtain ⟨fk, fb, fi, fs, fal, fnl, fcl, fam, fnm, fcm, rfl⟩ := V.ten hu
  have hz1 := alloc_size w (.cells #[.int .i64 ek, .bool eb, .int .i64 ei, .string es, .slice eal enl ecl, .slice eam enm ecm] 33)
  have hz2 : ((w.alloc (.cells #[.int .i64 ek, .bool eb, .int .i64 ei, .string es, .slice eal enl ecl, .slice eam enm ecm] 33)).alloc (.cells #[.int .i64 fk, .bool fb, .int .i64 fi, .string fs, .slice fal fnl fcl, .slice fam fnm fcm] 33)).heap.size = w.heap.size + 2 := by rw [alloc_size, alloc_size]
  have B2 : Below w.heap.size w ((w.alloc (.cells #[.int .i64 ek, .bool eb, .int .i64 ei, .string es, .slice eal enl ecl, .slice eam enm ecm] 33)).alloc (.cells #[.int .i64 fk, .bool fb, .int .i64 fi, .string fs, .slice fal fnl fcl, .slice fam fnm fcm] 33)) := ((Below.refl _ _).alloc (Nat.le_refl _) _).alloc (by omega) _
  have hbA : rowAt ((w.alloc (.cells #[.int .i64 ek, .bool eb, .int .i64 ei, .string es, .slice eal enl ecl, .slice eam enm ecm] 33)).alloc (.cells #[.int .i64 fk, .bool fb, .int .i64 fi, .string fs, .slice fal fnl fcl, .slice fam fnm fcm] 33)) w.heap.size 0 [.int .i64 ek, .bool eb, .int .i64 ei, .string es, .slice eal enl ecl, .slice eam enm ecm] := (box_row w [.int .i64 ek, .bool eb, .int .i64 ei, .string es, .slice eal enl ecl, .slice eam enm ecm] 33).keep (Below.heap_alloc (w.alloc (.cells #[.int .i64 ek, .bool eb, .int .i64 ei, .string es, .slice eal enl ecl, .slice eam enm ecm] 33)) (.cells #[.int .i64 fk, .bool fb, .int .i64 fi, .string fs, .slice fal fnl fcl, .slice fam fnm fcm] 33) w.heap.size (by omega))
  have hbB : rowAt ((w.alloc (.cells #[.int .i64 ek, .bool eb, .int .i64 ei, .string es, .slice eal enl ecl, .slice eam enm ecm] 33)).alloc (.cells #[.int .i64 fk, .bool fb, .int .i64 fi, .string fs, .slice fal fnl fcl, .slice fam fnm fcm] 33)) (w.heap.size + 1) 0 [.int .i64 fk, .bool fb, .int .i64 fi, .string fs, .slice fal fnl fcl, .slice fam fnm fcm] := by
    have h := box_row (w.alloc (.cells #[.int .i64 ek, .bool eb, .int .i64 ei, .string es, .slice eal enl ecl, .slice eam enm ecm] 33)) [.int .i64 fk, .bool fb, .int .i64 fi, .string fs, .slice fal fnl fcl, .slice fam fnm fcm] 33
    rw [hz1] at h
    exact h
  have HV : Hid (∀ W, Below w.heap.size w W → v.lies R W S [.int .i64 ek, .bool eb, .int .i64 ei, .string es, .slice eal enl ecl, .slice eam enm ecm] ∧ (∀ b, S b → b < W.heap.size)) := fun W hb => ⟨V.lies_keep (fun h => h) (fun x hx => hb.block x (hS x hx)) (fun _ h => h) _ hv, fun x hx => Nat.lt_of_lt_of_le (hS x hx) hb.size⟩
  have HU : Hid (∀ W, Below w.heap.size w W → u.lies R' W S' [.int .i64 fk, .bool fb, .int .i64 fi, .string fs, .slice fal fnl fcl, .slice fam fnm fcm] ∧ (∀ b, S' b → b < W.heap.size)) := fun W hb => ⟨V.lies_keep (fun h => h) (fun x hx => hb.block x (hS' x hx)) (fun _ h => h) _ hu, fun x hx => Nat.lt_of_lt_of_le (hS' x hx) hb.size⟩
  clear hv hu
  obtain ⟨d0, d1, d2, d3, d4, d5⟩ := row6z hbA
  go_enter Tryz.func62, Tryz.ntmps62
  go_wp2_with fail
  clear d0 d1 d2 d3 d4 d5
  generalize ((w.alloc (.cells #[.int .i64 ek, .bool eb, .int .i64 ei, .string es, .slice eal enl ecl, .slice eam enm ecm] 33)).alloc (.cells #[.int .i64 fk, .bool fb, .int .i64 fi, .string fs, .slice fal fnl fcl, .slice fam fnm fcm] 33)) = w0 at *
  refine (rtaken_any R v S _ w0 (HV.out w0 B2).1 (HV.out w0 B2).2 hwt).mono ?_
  rintro e w1 ⟨rfl, b1⟩
  have hs1 := b1.size
  have B3 := B2.trans (b1.mono (by omega))
  have hbA1 := hbA.keep (b1.block _ (by omega))
  have hbB1 := hbB.keep (b1.block _ (by omega))
  obtain ⟨f0, f1, f2, f3, f4, f5⟩ := row6z hbB1
  go_wp2_with fail
  refine (rtaken_any R' u S' _ w1 (HU.out w1 B3).1 (HU.out w1 B3).2 hwt').mono ?_
  rintro e w2 ⟨rfl, b2⟩
  have hs2 := b2.size
  have B4 := B3.trans (b2.mono (by omega))
  obtain ⟨d0, d1, d2, d3, d4, d5⟩ := row6z (hbA1.keep (b2.block _ (by omega)))
  clear f0 f1 f2 f3 f4 f5
  obtain ⟨f0, f1, f2, f3, f4, f5⟩ := row6z (hbB1.keep (b2.block _ (by omega)))
  cases ho : okV v with
  | false =>
    have HN : Hid (cmpV v u = 0) := by show _ = _; exact cmpV_no1 ho
    cases ho2 : okV u with
    | false =>
      go_wp2_with fail
      go_ret
      rw [HN.out]
      exact ⟨rfl, B4⟩
    | true =>
      go_wp2_with fail
      go_ret
      rw [HN.out]
      exact ⟨rfl, B4⟩
  | true =>
    cases ho2 : okV u with
    | false =>
      have HN : Hid (cmpV v u = 0) := by show _ = _; exact cmpV_no2 ho2
      go_wp2_with fail
      go_ret
      rw [HN.out]
      exact ⟨rfl, B4⟩
    | true =>
      have hc := first_any v u R R' S S' _ _ w2 (HV.out w2 B4).1 (HU.out w2 B4).1 (HV.out w2 B4).2 (HU.out w2 B4).2
      rw [frs_of ho ho2] at hc
      have HY : Hid (cmpV v u = ordV v u) := by show _ = _; rw [cmpV_yes ho ho2]
      generalize ordV v u = c at *
      go_wp2_with fail
      refine hc.mono ?_
      rintro e w3 ⟨rfl, b3⟩
      go_wp2_with fail
      go_ret
      rw [HY.out]
      exact ⟨rfl, B4.trans (b3.mono (by omega))⟩
end Go.Proofs.YtfekgeaopchilaaGreatDoor
