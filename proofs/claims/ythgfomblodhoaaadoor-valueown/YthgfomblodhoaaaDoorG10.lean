/- joined: GdP CmpA FauA GodA ClrA -/
import Derived.Test.YthgfomblodhoaaaDoorG9
/- Good values of few levels: sorted members, and that they are taken. -/
set_option linter.unusedSimpArgs false
set_option linter.unusedVariables false
namespace Go.Proofs.YthgfomblodhoaaaDoor
open Go.RowKit Go.Lib
theorem u8_tri (x y : UInt8) (h1 : ¬ x < y) (h2 : ¬ y < x) : x = y := by
  rcases Nat.lt_trichotomy x.toNat y.toNat with h | h | h
  · exact absurd h h1
  · exact UInt8.toNat_inj.1 h
  · exact absurd h h2
theorem cmp_anti : ∀ a b : List UInt8, compareBytes b a = - compareBytes a b
  | [], [] => by simp [compareBytes]
  | [], _ :: _ => by simp [compareBytes]
  | _ :: _, [] => by simp [compareBytes]
  | x :: t, y :: u => by
    have ih := cmp_anti t u
    rw [compareBytes, compareBytes]
    by_cases h1 : x < y
    · have h2 : ¬ y < x := fun h => Nat.lt_asymm h1 h
      rw [if_neg h2, if_pos h1, if_pos h1]; rfl
    · by_cases h2 : y < x
      · rw [if_pos h2, if_neg h1, if_pos h2]
      · rw [if_neg h2, if_neg h1, if_neg h1, if_neg h2, ih]
theorem cmp_trans : ∀ a b c : List UInt8, compareBytes a b = -1 → compareBytes b c = -1 → compareBytes a c = -1
  | [], [], c, h, _ => by simp [compareBytes] at h
  | [], _ :: _, [], _, h => by simp [compareBytes] at h
  | [], _ :: _, _ :: _, _, _ => by simp [compareBytes]
  | _ :: _, [], c, h, _ => by simp [compareBytes] at h
  | _ :: _, _ :: _, [], _, h => by simp [compareBytes] at h
  | x :: t, y :: u, z :: v, h, h' => by
    rw [compareBytes] at h h' ⊢
    by_cases h1 : x < y
    · by_cases h2 : y < z
      · rw [if_pos (show x < z from Nat.lt_trans h1 h2)]
      · rw [if_neg h2] at h'
        by_cases h3 : z < y
        · rw [if_pos h3] at h'; simp at h'
        · rw [← u8_tri y z h2 h3, if_pos h1]
    · rw [if_neg h1] at h
      by_cases h3 : y < x
      · rw [if_pos h3] at h; simp at h
      · rw [if_neg h3] at h
        have e := u8_tri x y h1 h3
        subst e
        by_cases h2 : x < z
        · rw [if_pos h2]
        · rw [if_neg h2] at h' ⊢
          by_cases h4 : z < x
          · rw [if_pos h4] at h'; simp at h'
          · rw [if_neg h4] at h' ⊢
            exact cmp_trans t u v h h'
theorem ltB_cmp (a b : ByteArray) : ltB a b = true ↔ cmpS a b = -1 := by
  rw [ltB, less_cmp, cmpS, toList_data, toList_data]; simp
theorem ltB_trans {a b c : ByteArray} (h : ltB a b = true) (h' : ltB b c = true) : ltB a c = true := by
  rw [ltB_cmp] at *; exact cmp_trans _ _ _ h h'
theorem ltB_tri {a b : ByteArray} (h : ltB a b = false) (hn : ¬ a.toList = b.toList) : ltB b a = true := by
  rw [ltB_cmp, cmpS]
  have h1 : ¬ cmpS a b = -1 := fun e => by rw [← ltB_cmp] at e; rw [e] at h; cases h
  have h2 : ¬ cmpS a b = 0 := fun e => hn ((cmpS_zero a b).1 e)
  rw [cmp_anti]
  have h3 := cmp_one a.data.toList b.data.toList
  unfold cmpS at h1 h2
  omega
theorem ltB_irr (a : ByteArray) : ltB a a = false := by
  cases h : ltB a a
  · rfl
  · rw [ltB_cmp] at h
    have := (cmpS_zero a a).2 rfl
    rw [this] at h; simp at h
def Srt (l : List Mem) : Prop := l.Pairwise (fun a b => ltB a.1 b.1 = true)
theorem srt_filter {key : ByteArray} : ∀ {l : List Mem}, Srt l → l.filter (lessKey key) = l.take (l.filter (lessKey key)).length ∧ ∀ y ∈ l.drop (l.filter (lessKey key)).length, lessKey key y = false
  | [], _ => by simp
  | x :: t, h => by
    have h0 : Srt t := (List.pairwise_cons.1 h).2
    have h1 := (List.pairwise_cons.1 h).1
    have ih := srt_filter (key := key) h0
    cases hx : lessKey key x
    · have hall : t.filter (lessKey key) = [] := by
        rw [List.filter_eq_nil_iff]
        intro y hy hl
        have : lessKey key x = true := ltB_trans (h1 y hy) hl
        rw [this] at hx; cases hx
      rw [List.filter_cons_of_neg (by simp [hx]), hall]
      refine ⟨by simp, fun y hy => ?_⟩
      rw [List.length_nil, List.drop_zero] at hy
      rcases List.mem_cons.1 hy with rfl | hy
      · exact hx
      · have := List.filter_eq_nil_iff.1 hall y hy
        simpa using this
    · rw [List.filter_cons_of_pos hx, List.length_cons, List.take_succ_cons, List.drop_succ_cons]
      exact ⟨by rw [← ih.1], ih.2⟩
end Go.Proofs.YthgfomblodhoaaaDoor
/- Compare, Equal and the document's; cleared. -/
namespace Go.Proofs.YthgfomblodhoaaaDoor
open Go.RowKit Go.Lib
def cmpV (v u : V) : Int := if okV v = true ∧ okV u = true then ordV v u else 0
def eqlV (v u : V) : Bool := okV v && (okV u && decide (ordV v u = 0))
theorem cmpV_no1 {v u : V} (h : okV v = false) : cmpV v u = 0 := by rw [cmpV, if_neg]; rw [h]; simp
theorem cmpV_no2 {v u : V} (h : okV u = false) : cmpV v u = 0 := by rw [cmpV, if_neg]; rw [h]; simp
theorem cmpV_yes {v u : V} (h : okV v = true) (h' : okV u = true) : cmpV v u = ordV v u := by rw [cmpV, if_pos ⟨h, h'⟩]
theorem beq_dec (c : Int) : (c == 0) = decide (c = 0) := by
  rw [Bool.eq_iff_iff, beq_iff_eq, decide_eq_true_iff]
set_option maxHeartbeats 4000000 in
set_option maxRecDepth 100000 in
theorem compare_any (v u : V) (R R' : Bool) (S S' : Nat → Prop) (cs cs' : List Value) (w : World) (tb : Tb w) (hv : v.lies R w S cs) (hu : u.lies R' w S' cs') (hS : ∀ b, S b → b < w.heap.size) (hS' : ∀ b, S' b → b < w.heap.size) (hwt : v.wt ≤ 1099511627776) (hwt' : u.wt ≤ 1099511627776) :
    Calls Tryd.prog 28 #[.agg cs.toArray, .agg cs'.toArray] w (JPost (cmpV v u) w) := by
  obtain ⟨ek, eb, ei, es, eal, enl, ecl, eam, enm, ecm, rfl⟩ := V.ten hv
  obtain ⟨fk, fb, fi, fs, fal, fnl, fcl, fam, fnm, fcm, rfl⟩ := V.ten hu
  have hz1 := alloc_size w (.cells #[.int .i64 ek, .bool eb, .int .i64 ei, .string es, .slice eal enl ecl, .slice eam enm ecm] 25)
  have hz2 : ((w.alloc (.cells #[.int .i64 ek, .bool eb, .int .i64 ei, .string es, .slice eal enl ecl, .slice eam enm ecm] 25)).alloc (.cells #[.int .i64 fk, .bool fb, .int .i64 fi, .string fs, .slice fal fnl fcl, .slice fam fnm fcm] 25)).heap.size = w.heap.size + 2 := by rw [alloc_size, alloc_size]
  have B2 : Below w.heap.size w ((w.alloc (.cells #[.int .i64 ek, .bool eb, .int .i64 ei, .string es, .slice eal enl ecl, .slice eam enm ecm] 25)).alloc (.cells #[.int .i64 fk, .bool fb, .int .i64 fi, .string fs, .slice fal fnl fcl, .slice fam fnm fcm] 25)) := ((Below.refl _ _).alloc (Nat.le_refl _) _).alloc (by omega) _
  have hbA : rowAt ((w.alloc (.cells #[.int .i64 ek, .bool eb, .int .i64 ei, .string es, .slice eal enl ecl, .slice eam enm ecm] 25)).alloc (.cells #[.int .i64 fk, .bool fb, .int .i64 fi, .string fs, .slice fal fnl fcl, .slice fam fnm fcm] 25)) w.heap.size 0 [.int .i64 ek, .bool eb, .int .i64 ei, .string es, .slice eal enl ecl, .slice eam enm ecm] := (box_row w [.int .i64 ek, .bool eb, .int .i64 ei, .string es, .slice eal enl ecl, .slice eam enm ecm] 25).keep (Below.heap_alloc (w.alloc (.cells #[.int .i64 ek, .bool eb, .int .i64 ei, .string es, .slice eal enl ecl, .slice eam enm ecm] 25)) (.cells #[.int .i64 fk, .bool fb, .int .i64 fi, .string fs, .slice fal fnl fcl, .slice fam fnm fcm] 25) w.heap.size (by omega))
  have hbB : rowAt ((w.alloc (.cells #[.int .i64 ek, .bool eb, .int .i64 ei, .string es, .slice eal enl ecl, .slice eam enm ecm] 25)).alloc (.cells #[.int .i64 fk, .bool fb, .int .i64 fi, .string fs, .slice fal fnl fcl, .slice fam fnm fcm] 25)) (w.heap.size + 1) 0 [.int .i64 fk, .bool fb, .int .i64 fi, .string fs, .slice fal fnl fcl, .slice fam fnm fcm] := by
    have h := box_row (w.alloc (.cells #[.int .i64 ek, .bool eb, .int .i64 ei, .string es, .slice eal enl ecl, .slice eam enm ecm] 25)) [.int .i64 fk, .bool fb, .int .i64 fi, .string fs, .slice fal fnl fcl, .slice fam fnm fcm] 25
    rw [hz1] at h
    exact h
  have HV : Hid (∀ W, Below w.heap.size w W → v.lies R W S [.int .i64 ek, .bool eb, .int .i64 ei, .string es, .slice eal enl ecl, .slice eam enm ecm] ∧ (∀ b, S b → b < W.heap.size)) := fun W hb => ⟨V.lies_keep (fun h => h) (fun x hx => hb.block x (hS x hx)) (fun _ h => h) _ hv, fun x hx => Nat.lt_of_lt_of_le (hS x hx) hb.size⟩
  have HU : Hid (∀ W, Below w.heap.size w W → u.lies R' W S' [.int .i64 fk, .bool fb, .int .i64 fi, .string fs, .slice fal fnl fcl, .slice fam fnm fcm] ∧ (∀ b, S' b → b < W.heap.size)) := fun W hb => ⟨V.lies_keep (fun h => h) (fun x hx => hb.block x (hS' x hx)) (fun _ h => h) _ hu, fun x hx => Nat.lt_of_lt_of_le (hS' x hx) hb.size⟩
  have HB : Hid (∀ W, Below w.heap.size w W → Tb W) := fun W hb => tb.below hb tb.z
  clear hv hu
  obtain ⟨d0, d1, d2, d3, d4, d5⟩ := row6z hbA
  go_enter Tryd.func28, Tryd.ntmps28
  go_wp2_with fail
  clear d0 d1 d2 d3 d4 d5
  generalize ((w.alloc (.cells #[.int .i64 ek, .bool eb, .int .i64 ei, .string es, .slice eal enl ecl, .slice eam enm ecm] 25)).alloc (.cells #[.int .i64 fk, .bool fb, .int .i64 fi, .string fs, .slice fal fnl fcl, .slice fam fnm fcm] 25)) = w0 at *
  refine (taken_any R v S _ w0 (HB.out w0 B2) (HV.out w0 B2).1 (HV.out w0 B2).2 hwt).mono ?_
  rintro e w1 ⟨rfl, b1⟩
  have hs1 := b1.size
  have B3 := B2.trans (b1.mono (by omega))
  have hbA1 := hbA.keep (b1.block _ (by omega))
  have hbB1 := hbB.keep (b1.block _ (by omega))
  obtain ⟨f0, f1, f2, f3, f4, f5⟩ := row6z hbB1
  cases ho : okV v with
  | false =>
    have HN : Hid (cmpV v u = 0) := by show _ = _; exact cmpV_no1 ho
    go_wp2_with fail
    go_ret
    rw [HN.out]
    exact ⟨rfl, B3⟩
  | true =>
    go_wp2_with fail
    refine (taken_any R' u S' _ w1 (HB.out w1 B3) (HU.out w1 B3).1 (HU.out w1 B3).2 hwt').mono ?_
    rintro e w2 ⟨rfl, b2⟩
    have hs2 := b2.size
    have B4 := B3.trans (b2.mono (by omega))
    obtain ⟨d0, d1, d2, d3, d4, d5⟩ := row6z (hbA1.keep (b2.block _ (by omega)))
    clear f0 f1 f2 f3 f4 f5
    obtain ⟨f0, f1, f2, f3, f4, f5⟩ := row6z (hbB1.keep (b2.block _ (by omega)))
    cases ho2 : okV u with
    | false =>
      have HN : Hid (cmpV v u = 0) := by show _ = _; exact cmpV_no2 ho2
      go_wp2_with fail
      go_ret
      rw [HN.out]
      exact ⟨rfl, B4⟩
    | true =>
      have hc := order_any v u R R' S S' _ _ w2 (HV.out w2 B4).1 (HU.out w2 B4).1 (HV.out w2 B4).2 (HU.out w2 B4).2
      skip
      have HY : Hid (cmpV v u = ordV v u) := by show _ = _; rw [cmpV_yes ho ho2]
      generalize ordV v u = c at *
      go_wp2_with fail
      refine hc.mono ?_
      rintro e w3 ⟨rfl, b3⟩
      go_wp2_with fail
      go_ret
      rw [HY.out]
      exact ⟨rfl, B4.trans (b3.mono (by omega))⟩
set_option maxHeartbeats 4000000 in
set_option maxRecDepth 100000 in
theorem equal_any (v u : V) (R R' : Bool) (S S' : Nat → Prop) (cs cs' : List Value) (w : World) (tb : Tb w) (hv : v.lies R w S cs) (hu : u.lies R' w S' cs') (hS : ∀ b, S b → b < w.heap.size) (hS' : ∀ b, S' b → b < w.heap.size) (hwt : v.wt ≤ 1099511627776) (hwt' : u.wt ≤ 1099511627776) :
    Calls Tryd.prog 41 #[.agg cs.toArray, .agg cs'.toArray] w (BPost (eqlV v u) w) := by
  obtain ⟨ek, eb, ei, es, eal, enl, ecl, eam, enm, ecm, rfl⟩ := V.ten hv
  obtain ⟨fk, fb, fi, fs, fal, fnl, fcl, fam, fnm, fcm, rfl⟩ := V.ten hu
  have hz1 := alloc_size w (.cells #[.int .i64 ek, .bool eb, .int .i64 ei, .string es, .slice eal enl ecl, .slice eam enm ecm] 25)
  have hz2 : ((w.alloc (.cells #[.int .i64 ek, .bool eb, .int .i64 ei, .string es, .slice eal enl ecl, .slice eam enm ecm] 25)).alloc (.cells #[.int .i64 fk, .bool fb, .int .i64 fi, .string fs, .slice fal fnl fcl, .slice fam fnm fcm] 25)).heap.size = w.heap.size + 2 := by rw [alloc_size, alloc_size]
  have B2 : Below w.heap.size w ((w.alloc (.cells #[.int .i64 ek, .bool eb, .int .i64 ei, .string es, .slice eal enl ecl, .slice eam enm ecm] 25)).alloc (.cells #[.int .i64 fk, .bool fb, .int .i64 fi, .string fs, .slice fal fnl fcl, .slice fam fnm fcm] 25)) := ((Below.refl _ _).alloc (Nat.le_refl _) _).alloc (by omega) _
  have hbA : rowAt ((w.alloc (.cells #[.int .i64 ek, .bool eb, .int .i64 ei, .string es, .slice eal enl ecl, .slice eam enm ecm] 25)).alloc (.cells #[.int .i64 fk, .bool fb, .int .i64 fi, .string fs, .slice fal fnl fcl, .slice fam fnm fcm] 25)) w.heap.size 0 [.int .i64 ek, .bool eb, .int .i64 ei, .string es, .slice eal enl ecl, .slice eam enm ecm] := (box_row w [.int .i64 ek, .bool eb, .int .i64 ei, .string es, .slice eal enl ecl, .slice eam enm ecm] 25).keep (Below.heap_alloc (w.alloc (.cells #[.int .i64 ek, .bool eb, .int .i64 ei, .string es, .slice eal enl ecl, .slice eam enm ecm] 25)) (.cells #[.int .i64 fk, .bool fb, .int .i64 fi, .string fs, .slice fal fnl fcl, .slice fam fnm fcm] 25) w.heap.size (by omega))
  have hbB : rowAt ((w.alloc (.cells #[.int .i64 ek, .bool eb, .int .i64 ei, .string es, .slice eal enl ecl, .slice eam enm ecm] 25)).alloc (.cells #[.int .i64 fk, .bool fb, .int .i64 fi, .string fs, .slice fal fnl fcl, .slice fam fnm fcm] 25)) (w.heap.size + 1) 0 [.int .i64 fk, .bool fb, .int .i64 fi, .string fs, .slice fal fnl fcl, .slice fam fnm fcm] := by
    have h := box_row (w.alloc (.cells #[.int .i64 ek, .bool eb, .int .i64 ei, .string es, .slice eal enl ecl, .slice eam enm ecm] 25)) [.int .i64 fk, .bool fb, .int .i64 fi, .string fs, .slice fal fnl fcl, .slice fam fnm fcm] 25
    rw [hz1] at h
    exact h
  have HV : Hid (∀ W, Below w.heap.size w W → v.lies R W S [.int .i64 ek, .bool eb, .int .i64 ei, .string es, .slice eal enl ecl, .slice eam enm ecm] ∧ (∀ b, S b → b < W.heap.size)) := fun W hb => ⟨V.lies_keep (fun h => h) (fun x hx => hb.block x (hS x hx)) (fun _ h => h) _ hv, fun x hx => Nat.lt_of_lt_of_le (hS x hx) hb.size⟩
  have HU : Hid (∀ W, Below w.heap.size w W → u.lies R' W S' [.int .i64 fk, .bool fb, .int .i64 fi, .string fs, .slice fal fnl fcl, .slice fam fnm fcm] ∧ (∀ b, S' b → b < W.heap.size)) := fun W hb => ⟨V.lies_keep (fun h => h) (fun x hx => hb.block x (hS' x hx)) (fun _ h => h) _ hu, fun x hx => Nat.lt_of_lt_of_le (hS' x hx) hb.size⟩
  have HB : Hid (∀ W, Below w.heap.size w W → Tb W) := fun W hb => tb.below hb tb.z
  clear hv hu
  obtain ⟨d0, d1, d2, d3, d4, d5⟩ := row6z hbA
  go_enter Tryd.func41, Tryd.ntmps41
  go_wp2_with fail
  clear d0 d1 d2 d3 d4 d5
  generalize ((w.alloc (.cells #[.int .i64 ek, .bool eb, .int .i64 ei, .string es, .slice eal enl ecl, .slice eam enm ecm] 25)).alloc (.cells #[.int .i64 fk, .bool fb, .int .i64 fi, .string fs, .slice fal fnl fcl, .slice fam fnm fcm] 25)) = w0 at *
  refine (taken_any R v S _ w0 (HB.out w0 B2) (HV.out w0 B2).1 (HV.out w0 B2).2 hwt).mono ?_
  rintro e w1 ⟨rfl, b1⟩
  have hs1 := b1.size
  have B3 := B2.trans (b1.mono (by omega))
  have hbA1 := hbA.keep (b1.block _ (by omega))
  have hbB1 := hbB.keep (b1.block _ (by omega))
  obtain ⟨f0, f1, f2, f3, f4, f5⟩ := row6z hbB1
  cases ho : okV v with
  | false =>
    have HN : Hid (eqlV v u = false) := by show _ = _; simp [eqlV, ho]
    go_wp2_with fail
    go_ret
    rw [HN.out]
    exact ⟨rfl, B3⟩
  | true =>
    go_wp2_with fail
    refine (taken_any R' u S' _ w1 (HB.out w1 B3) (HU.out w1 B3).1 (HU.out w1 B3).2 hwt').mono ?_
    rintro e w2 ⟨rfl, b2⟩
    have hs2 := b2.size
    have B4 := B3.trans (b2.mono (by omega))
    obtain ⟨d0, d1, d2, d3, d4, d5⟩ := row6z (hbA1.keep (b2.block _ (by omega)))
    clear f0 f1 f2 f3 f4 f5
    obtain ⟨f0, f1, f2, f3, f4, f5⟩ := row6z (hbB1.keep (b2.block _ (by omega)))
    cases ho2 : okV u with
    | false =>
      have HN : Hid (eqlV v u = false) := by show _ = _; simp [eqlV, ho2]
      go_wp2_with fail
      go_ret
      rw [HN.out]
      exact ⟨rfl, B4⟩
    | true =>
      have hc := order_any v u R R' S S' _ _ w2 (HV.out w2 B4).1 (HU.out w2 B4).1 (HV.out w2 B4).2 (HU.out w2 B4).2
      skip
      have HY : Hid (eqlV v u = decide (ordV v u = 0)) := by show _ = _; simp [eqlV, ho, ho2]
      generalize ordV v u = c at *
      go_wp2_with fail
      refine hc.mono ?_
      rintro e w3 ⟨rfl, b3⟩
      go_wp2_with fail
      go_ret
      rw [HY.out]
      exact ⟨by simp only [beq_dec]; rfl, B4.trans (b3.mono (by omega))⟩
end Go.Proofs.YthgfomblodhoaaaDoor
/- faulty: some value. -/
namespace Go.Proofs.YthgfomblodhoaaaDoor
open Go.RowKit
theorem headed_nil : Headed none ([] : List V).length 0 0 0 := ⟨Nat.le_refl _, by simp [maxLen], .inl rfl, fun _ => rfl⟩
end Go.Proofs.YthgfomblodhoaaaDoor
/- good: some good value; the kinds without members. -/
namespace Go.Proofs.YthgfomblodhoaaaDoor
open Go.RowKit
def Wb : Nat → Nat
  | 0 => 21
  | n + 1 => 21 + 15 * (20 + Wb n)
def New (w w' : World) (x : Nat) : Prop := w.heap.size ≤ x ∧ x < w'.heap.size
theorem lies_S {W : World} {S : Nat → Prop} {k i : Int} {b : Bool} {s : ByteArray} {l : List V} {m : List Mem} {al am : Option Addr} {cl bl ol cm bm om nl nm : Nat} (hk : In64 k) (hi : In64 i) (hs : s.size ≤ maxLen) (hal : Headed al nl cl bl ol) (ham : Headed am nm cm bm om) (hl : liesL false W S l bl ol) (hm : liesM false W S m bm om) (e1 : nl = l.length := by rfl) (e2 : nm = m.length := by rfl) :
    (V.mk k b i s l m).lies false W S [.int .i64 k, .bool b, .int .i64 i, .string s, .slice al nl cl, .slice am nm cm] := by
  subst e1 e2
  rw [V.lies]
  exact ⟨al, cl, bl, ol, am, cm, bm, om, rfl, hk, hi, hs, hal, ham, hl, hm, fun h => by cases h⟩
end Go.Proofs.YthgfomblodhoaaaDoor
/- freeholdlaw02.cleared; a value against itself. -/
namespace Go.Proofs.YthgfomblodhoaaaDoor
open Go.RowKit Go.Lib
theorem two_below (w : World) (o o' : Obj) : Below w.heap.size w ((w.alloc o).alloc o') := ((Below.refl _ _).alloc (Nat.le_refl _) _).alloc (by rw [alloc_size]; omega) _
end Go.Proofs.YthgfomblodhoaaaDoor
