import Derived.Test.YtfbmmilphcnolaaDoorAllG
import Derived.Test.YtfbmmilphcnolaaDoorG22
/- Compare, Equal and the document's; cleared. -/
set_option linter.unusedSimpArgs false
set_option linter.unusedVariables false
namespace Go.Proofs.YtfbmmilphcnolaaDoor
open Go.RowKit Go.Lib
def cmpV (v u : V) : Int := if okV v = true ∧ okV u = true then ordV v u else 0
theorem cmpV_no1 {v u : V} (h : okV v = false) : cmpV v u = 0 := by rw [cmpV, if_neg]; rw [h]; simp
theorem cmpV_no2 {v u : V} (h : okV u = false) : cmpV v u = 0 := by rw [cmpV, if_neg]; rw [h]; simp
theorem cmpV_yes {v u : V} (h : okV v = true) (h' : okV u = true) : cmpV v u = ordV v u := by rw [cmpV, if_pos ⟨h, h'⟩]
theorem frs_of {v u : V} (h : okV v = true) (h' : okV u = true) : frsV v u = ordV v u := frs_ord v u (chkV_allG 40 v 0 _ (okV_true h)) (chkV_allG 40 u 0 _ (okV_true h'))
set_option maxHeartbeats 4000000 in
set_option maxRecDepth 100000 in
theorem rcompare_any (v u : V) (R R' : Bool) (S S' : Nat → Prop) (cs cs' : List Value) (w : World) (hv : v.lies R w S cs) (hu : u.lies R' w S' cs') (hS : ∀ b, S b → b < w.heap.size) (hS' : ∀ b, S' b → b < w.heap.size) (hwt : v.wt ≤ 1099511627776) (hwt' : u.wt ≤ 1099511627776) :
    Calls Tryd.prog 80 #[.agg cs.toArray, .agg cs'.toArray] w (JPost (cmpV v u) w) := by
  obtain ⟨ek, eb, ei, es, eal, enl, ecl, eam, enm, ecm, rfl⟩ := V.ten hv
  obtain ⟨fk, fb, fi, fs, fal, fnl, fcl, fam, fnm, fcm, rfl⟩ := V.ten hu
  have hz1 := alloc_size w (.cells #[.int .i64 ek, .bool eb, .int .i64 ei, .string es, .slice eal enl ecl, .slice eam enm ecm] 45)
  have hz2 : ((w.alloc (.cells #[.int .i64 ek, .bool eb, .int .i64 ei, .string es, .slice eal enl ecl, .slice eam enm ecm] 45)).alloc (.cells #[.int .i64 fk, .bool fb, .int .i64 fi, .string fs, .slice fal fnl fcl, .slice fam fnm fcm] 45)).heap.size = w.heap.size + 2 := by rw [alloc_size, alloc_size]
  have B2 : Below w.heap.size w ((w.alloc (.cells #[.int .i64 ek, .bool eb, .int .i64 ei, .string es, .slice eal enl ecl, .slice eam enm ecm] 45)).alloc (.cells #[.int .i64 fk, .bool fb, .int .i64 fi, .string fs, .slice fal fnl fcl, .slice fam fnm fcm] 45)) := ((Below.refl _ _).alloc (Nat.le_refl _) _).alloc (by omega) _
  have hbA : rowAt ((w.alloc (.cells #[.int .i64 ek, .bool eb, .int .i64 ei, .string es, .slice eal enl ecl, .slice eam enm ecm] 45)).alloc (.cells #[.int .i64 fk, .bool fb, .int .i64 fi, .string fs, .slice fal fnl fcl, .slice fam fnm fcm] 45)) w.heap.size 0 [.int .i64 ek, .bool eb, .int .i64 ei, .string es, .slice eal enl ecl, .slice eam enm ecm] := (box_row w [.int .i64 ek, .bool eb, .int .i64 ei, .string es, .slice eal enl ecl, .slice eam enm ecm] 45).keep (Below.heap_alloc (w.alloc (.cells #[.int .i64 ek, .bool eb, .int .i64 ei, .string es, .slice eal enl ecl, .slice eam enm ecm] 45)) (.cells #[.int .i64 fk, .bool fb, .int .i64 fi, .string fs, .slice fal fnl fcl, .slice fam fnm fcm] 45) w.heap.size (by omega))
  have hbB : rowAt ((w.alloc (.cells #[.int .i64 ek, .bool eb, .int .i64 ei, .string es, .slice eal enl ecl, .slice eam enm ecm] 45)).alloc (.cells #[.int .i64 fk, .bool fb, .int .i64 fi, .string fs, .slice fal fnl fcl, .slice fam fnm fcm] 45)) (w.heap.size + 1) 0 [.int .i64 fk, .bool fb, .int .i64 fi, .string fs, .slice fal fnl fcl, .slice fam fnm fcm] := by
    have h := box_row (w.alloc (.cells #[.int .i64 ek, .bool eb, .int .i64 ei, .string es, .slice eal enl ecl, .slice eam enm ecm] 45)) [.int .i64 fk, .bool fb, .int .i64 fi, .string fs, .slice fal fnl fcl, .slice fam fnm fcm] 45
    rw [hz1] at h
    exact h
  have HV : Hid (∀ W, Below w.heap.size w W → v.lies R W S [.int .i64 ek, .bool eb, .int .i64 ei, .string es, .slice eal enl ecl, .slice eam enm ecm] ∧ (∀ b, S b → b < W.heap.size)) := fun W hb => ⟨V.lies_keep (fun h => h) (fun x hx => hb.block x (hS x hx)) (fun _ h => h) _ hv, fun x hx => Nat.lt_of_lt_of_le (hS x hx) hb.size⟩
  have HU : Hid (∀ W, Below w.heap.size w W → u.lies R' W S' [.int .i64 fk, .bool fb, .int .i64 fi, .string fs, .slice fal fnl fcl, .slice fam fnm fcm] ∧ (∀ b, S' b → b < W.heap.size)) := fun W hb => ⟨V.lies_keep (fun h => h) (fun x hx => hb.block x (hS' x hx)) (fun _ h => h) _ hu, fun x hx => Nat.lt_of_lt_of_le (hS' x hx) hb.size⟩
  clear hv hu
  obtain ⟨d0, d1, d2, d3, d4, d5⟩ := row6z hbA
  go_enter Tryd.func80, Tryd.ntmps80
  go_wp2_with fail
  clear d0 d1 d2 d3 d4 d5
  generalize ((w.alloc (.cells #[.int .i64 ek, .bool eb, .int .i64 ei, .string es, .slice eal enl ecl, .slice eam enm ecm] 45)).alloc (.cells #[.int .i64 fk, .bool fb, .int .i64 fi, .string fs, .slice fal fnl fcl, .slice fam fnm fcm] 45)) = w0 at *
  refine (rtaken_any R v S _ w0 (HV.out w0 B2).1 (HV.out w0 B2).2 hwt).mono ?_
  rintro e w1 ⟨rfl, b1⟩
  have hs1 := b1.size
  have B3 := B2.trans (b1.mono (by omega))
  have hbA1 := hbA.keep (b1.block _ (by omega))
  have hbB1 := hbB.keep (b1.block _ (by omega))
  obtain ⟨f0, f1, f2, f3, f4, f5⟩ := row6z hbB1
  go_wp2_with fail
  refine (rtaken_any R' u S' _ w1 (HU.out w1 B3).1 (HU.out w1 B3).2 hwt').mono ?_
  rintro e w2 ⟨rfl, b2⟩
  have hs2 := b2.size
  have B4 := B3.trans (b2.mono (by omega))
  obtain ⟨d0, d1, d2, d3, d4, d5⟩ := row6z (hbA1.keep (b2.block _ (by omega)))
  clear f0 f1 f2 f3 f4 f5
  obtain ⟨f0, f1, f2, f3, f4, f5⟩ := row6z (hbB1.keep (b2.block _ (by omega)))
  cases ho : okV v with
  | false =>
    have HN : Hid (cmpV v u = 0) := by show _ = _; exact cmpV_no1 ho
    cases ho2 : okV u with
    | false =>
      go_wp2_with fail
      go_ret
      rw [HN.out]
      exact ⟨rfl, B4⟩
    | true =>
      go_wp2_with fail
      go_ret
      rw [HN.out]
      exact ⟨rfl, B4⟩
  | true =>
    cases ho2 : okV u with
    | false =>
      have HN : Hid (cmpV v u = 0) := by show _ = _; exact cmpV_no2 ho2
      go_wp2_with fail
      go_ret
      rw [HN.out]
      exact ⟨rfl, B4⟩
    | true =>
      have hc := first_any v u R R' S S' _ _ w2 (HV.out w2 B4).1 (HU.out w2 B4).1 (HV.out w2 B4).2 (HU.out w2 B4).2
      rw [frs_of ho ho2] at hc
      have HY : Hid (cmpV v u = ordV v u) := by show _ = _; rw [cmpV_yes ho ho2]
      generalize ordV v u = c at *
      go_wp2_with fail
      refine hc.mono ?_
      rintro e w3 ⟨rfl, b3⟩
      go_wp2_with fail
      go_ret
      rw [HY.out]
      exact ⟨rfl, B4.trans (b3.mono (by omega))⟩
end Go.Proofs.YtfbmmilphcnolaaDoor
