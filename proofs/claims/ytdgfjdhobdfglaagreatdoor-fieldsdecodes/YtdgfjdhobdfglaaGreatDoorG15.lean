/- joined: CmpA OdrP BytA PutB GdP -/
import Derived.Test.YtdgfjdhobdfglaaGreatDoorG14
import Derived.Test.YtdgfjdhobdfglaaGreatDoorG13
set_option linter.unusedSimpArgs false
set_option linter.unusedVariables false
set_option maxRecDepth 100000
namespace Go.Proofs.YtdgfjdhobdfglaaGreatDoor
open Go.RowKit Go.Lib
def cmpV (v u : V) : Int := if okV v = true /\ okV u = true then ordV v u else 0
theorem cmpV_no1 {v u : V} (h : okV v = false) : cmpV v u = 0 := by rw [cmpV, if_neg]; rw [h]; simp
theorem cmpV_no2 {v u : V} (h : okV u = false) : cmpV v u = 0 := by rw [cmpV, if_neg]; rw [h]; simp
theorem cmpV_yes {v u : V} (h : okV v = true) (h' : okV u = true) : cmpV v u = ordV v u := by rw [cmpV, if_pos ⟨h, h'⟩]
theorem frs_of {v u : V} (h : okV v = true) (h' : okV u = true) : frsV v u = ordV v u := frs_ord v u (chkV_allG 40 v 0 _ (okV_true h)) (chkV_allG 40 u 0 _ (okV_true h'))
set_option maxHeartbeats 8000000 in
theorem rcompare_any (v u : V) (R R' : Bool) (S S' : Nat -> Prop) (cs cs' : List Value) (w : World) (hv : v.lies R w S cs) (hu : u.lies R' w S' cs') (hS : ∀ b, S b -> b < w.heap.size) (hS' : ∀ b, S' b -> b < w.heap.size) (hwt : v.wt <= 1099511627776) (hwt' : u.wt <= 1099511627776) :
 Calls Tryz.prog 61 #[.agg cs.toArray, .agg cs'.toArray] w (JPost (cmpV v u) w) := by
 obtain ⟨ek, eb, ei, es, eal, enl, ecl, eam, enm, ecm, rfl⟩ := V.ten hv
 obtain ⟨fk, fb, fi, fs, fal, fnl, fcl, fam, fnm, fcm, rfl⟩ := V.ten hu
 have hz1 := alloc_size w (oV ek eb ei es eal enl ecl eam enm ecm)
 have hz2 : ((w.alloc (oV ek eb ei es eal enl ecl eam enm ecm)).alloc (oV fk fb fi fs fal fnl fcl fam fnm fcm)).heap.size = w.heap.size + 2 := by rw [alloc_size, alloc_size]
 have hz2 := hz2; dsimp only [oV, oN] at hz2
 have B2 : Below w.heap.size w ((w.alloc (oV ek eb ei es eal enl ecl eam enm ecm)).alloc (oV fk fb fi fs fal fnl fcl fam fnm fcm)) := ((Below.refl _ _).alloc (Nat.le_refl _) _).alloc (by omega) _
 have hbA : rowAt ((w.alloc (oV ek eb ei es eal enl ecl eam enm ecm)).alloc (oV fk fb fi fs fal fnl fcl fam fnm fcm)) w.heap.size 0 [.int .i64 ek, .bool eb, .int .i64 ei, .string es, .slice eal enl ecl, .slice eam enm ecm] := (box_row w [.int .i64 ek, .bool eb, .int .i64 ei, .string es, .slice eal enl ecl, .slice eam enm ecm] 25).keep (Below.heap_alloc (w.alloc (oV ek eb ei es eal enl ecl eam enm ecm)) (oV fk fb fi fs fal fnl fcl fam fnm fcm) w.heap.size (by omega))
 have hbB : rowAt ((w.alloc (oV ek eb ei es eal enl ecl eam enm ecm)).alloc (oV fk fb fi fs fal fnl fcl fam fnm fcm)) (w.heap.size + 1) 0 [.int .i64 fk, .bool fb, .int .i64 fi, .string fs, .slice fal fnl fcl, .slice fam fnm fcm] := by
  have h := box_row (w.alloc (oV ek eb ei es eal enl ecl eam enm ecm)) [.int .i64 fk, .bool fb, .int .i64 fi, .string fs, .slice fal fnl fcl, .slice fam fnm fcm] 25
  rw [hz1] at h
  exact h
 have HV : Hid (∀ W, Below w.heap.size w W -> v.lies R W S [.int .i64 ek, .bool eb, .int .i64 ei, .string es, .slice eal enl ecl, .slice eam enm ecm] /\ (∀ b, S b -> b < W.heap.size)) := fun W hb => ⟨V.lies_keep (fun h => h) (fun x hx => hb.block x (hS x hx)) (fun _ h => h) _ hv, fun x hx => Nat.lt_of_lt_of_le (hS x hx) hb.size⟩
 have HU : Hid (∀ W, Below w.heap.size w W -> u.lies R' W S' [.int .i64 fk, .bool fb, .int .i64 fi, .string fs, .slice fal fnl fcl, .slice fam fnm fcm] /\ (∀ b, S' b -> b < W.heap.size)) := fun W hb => ⟨V.lies_keep (fun h => h) (fun x hx => hb.block x (hS' x hx)) (fun _ h => h) _ hu, fun x hx => Nat.lt_of_lt_of_le (hS' x hx) hb.size⟩
 clear hv hu
 obtain ⟨d0, d1, d2, d3, d4, d5⟩ := row6z hbA
 go_enter Tryz.func61, Tryz.ntmps61
 go_wp2_with fail
 clear d0 d1 d2 d3 d4 d5
 generalize ((w.alloc (oV ek eb ei es eal enl ecl eam enm ecm)).alloc (oV fk fb fi fs fal fnl fcl fam fnm fcm)) = w0 at *
 refine (rtaken_any R v S _ w0 (HV.out w0 B2).1 (HV.out w0 B2).2 hwt).mono ?_
 rintro e w1 ⟨rfl, b1⟩
 have hs1 := b1.size
 have B3 := B2.trans (b1.mono (by omega))
 have hbA1 := hbA.keep (b1.block _ (by omega))
 have hbB1 := hbB.keep (b1.block _ (by omega))
 obtain ⟨f0, f1, f2, f3, f4, f5⟩ := row6z hbB1
 go_wp2_with fail
 refine (rtaken_any R' u S' _ w1 (HU.out w1 B3).1 (HU.out w1 B3).2 hwt').mono ?_
 rintro e w2 ⟨rfl, b2⟩
 have hs2 := b2.size
 have B4 := B3.trans (b2.mono (by omega))
 obtain ⟨d0, d1, d2, d3, d4, d5⟩ := row6z (hbA1.keep (b2.block _ (by omega)))
 clear f0 f1 f2 f3 f4 f5
 obtain ⟨f0, f1, f2, f3, f4, f5⟩ := row6z (hbB1.keep (b2.block _ (by omega)))
 cases ho : okV v with
 | false =>
  have HN : Hid (cmpV v u = 0) := by show _ = _; exact cmpV_no1 ho
  cases ho2 : okV u with
  | false =>
   go_wp2_with fail
   go_ret
   rw [HN.out]
   exact ⟨rfl, B4⟩
  | true =>
   go_wp2_with fail
   go_ret
   rw [HN.out]
   exact ⟨rfl, B4⟩
 | true =>
  cases ho2 : okV u with
  | false =>
   have HN : Hid (cmpV v u = 0) := by show _ = _; exact cmpV_no2 ho2
   go_wp2_with fail
   go_ret
   rw [HN.out]
   exact ⟨rfl, B4⟩
  | true =>
   have hc := first_any v u R R' S S' _ _ w2 (HV.out w2 B4).1 (HU.out w2 B4).1 (HV.out w2 B4).2 (HU.out w2 B4).2
   rw [frs_of ho ho2] at hc
   have HY : Hid (cmpV v u = ordV v u) := by show _ = _; rw [cmpV_yes ho ho2]
   generalize ordV v u = c at *
   go_wp2_with fail
   refine hc.mono ?_
   rintro e w3 ⟨rfl, b3⟩
   go_wp2_with fail
   go_ret
   rw [HY.out]
   exact ⟨rfl, B4.trans (b3.mono (by omega))⟩
end Go.Proofs.YtdgfjdhobdfglaaGreatDoor
set_option maxRecDepth 100000
namespace Go.Proofs.YtdgfjdhobdfglaaGreatDoor
open Go.RowKit Go.Lib
def rmM (x y : Mem) : Int := if cmpS x.1 y.1 = 0 then cmpV x.2 y.2 else cmpS x.1 y.1
def reE (x y : El) : Int := if x.kind = y.kind then (if x.kind = 1 then cmpS x.name y.name else if x.kind = 3 then cmpV x.item y.item else lexL rmM x.key y.key) else cmpI x.kind y.kind
theorem cmpS_nul (a b : ByteArray) : cmpS a b = 0 ↔ a.toList = b.toList := by rw [cmpS, cmp_zero, toList_data, toList_data]
theorem cmpS_self (a : ByteArray) : cmpS a a = 0 := (cmpS_nul a a).2 rfl
theorem os_cmp {v u : V} (hv : sizS v = true) (hu : sizS u = true) : osV v u = cmpV v u := by
 simp only [sizS, Bool.and_eq_true, decide_eq_true_eq] at hv hu
 rw [cmpV, if_pos ⟨hv.1, hu.1⟩]
 have gv := chkV_allG 40 v 0 _ (okV_true hv.1)
 have gu := chkV_allG 40 u 0 _ (okV_true hu.1)
 obtain ⟨k, b, i, s, l, m⟩ := v
 obtain ⟨k', b', i', s', l', m'⟩ := u
 rw [allG] at gv gu
 have p := goodB_plain gv.1
 have q := goodB_plain gu.1
 have hk := hv.2
 have hk' := hu.2
 simp only [kindOf] at hk hk'
 rw [osV, osB, ordV]
 by_cases e : k = k'
 ·subst e
  rw [if_pos rfl, if_pos rfl]
  have es : k ≠ 3 -> s = ⟨#[]⟩ /\ s' = ⟨#[]⟩ := fun h3 => by
   have a1 := p.2.2.2.2.1.resolve_left h3
   have a2 := q.2.2.2.2.1.resolve_left h3
   exact ⟨bytes_eq (by rw [nil_toList]; simpa using a1), bytes_eq (by rw [nil_toList]; simpa using a2)⟩
  have hk3 : k = 1 \/ k = 2 \/ k = 3 := by omega
  rcases hk3 with rfl | rfl | rfl
  ·obtain ⟨rfl, rfl⟩ := es (by omega)
   have a1 : i = 0 := p.2.2.2.1.resolve_left (by omega)
   have a2 : i' = 0 := q.2.2.2.1.resolve_left (by omega)
   rw [a1, a2, if_pos rfl, cmpB, cmpS_self, if_pos rfl]
  ·obtain ⟨rfl, rfl⟩ := es (by omega)
   have a1 : b = false := p.2.2.1.resolve_left (by omega)
   have a2 : b' = false := q.2.2.1.resolve_left (by omega)
   rw [a1, a2, if_pos rfl, cmpS_self]
   by_cases hi : i = i'
   ·rw [if_pos hi, if_neg (by omega), if_pos rfl, hi, cmpI]; simp
   ·rw [if_neg hi, if_neg (by omega), if_pos rfl]
  ·have a1 : b = false := p.2.2.1.resolve_left (by omega)
   have a2 : b' = false := q.2.2.1.resolve_left (by omega)
   have a3 : i = 0 := p.2.2.2.1.resolve_left (by omega)
   have a4 : i' = 0 := q.2.2.2.1.resolve_left (by omega)
   rw [a1, a2, a3, a4, if_pos rfl, if_pos rfl, if_neg (by omega), if_neg (by omega), if_pos rfl]
 ·rw [if_neg e, if_neg e]
theorem lex_congr {α : Type} {f g : α -> α -> Int} : ∀ (a b : List α), (∀ x ∈ a, ∀ y ∈ b, f x y = g x y) -> lexL f a b = lexL g a b
 | x :: a, y :: b, h => by
  rw [lexL, lexL, h x (by simp) y (by simp), lex_congr a b (fun x' hx y' hy => h x' (by simp [hx]) y' (by simp [hy]))]
 | [], b, _ => by cases b <;> rfl
 | x :: a, [], _ => rfl
theorem keysB_all {l : List Mem} (h : keysB l = true) : ∀ x ∈ l, sizS x.2 = true := by
 intro x hx
 obtain ⟨j, hj, rfl⟩ := List.getElem_of_mem hx
 simp only [keysB, Bool.and_eq_true, List.all_eq_true, List.mem_range] at h
 have := h.2 j hj
 simp only [okK, Bool.and_eq_true] at this
 rw [<- valAt_eq hj]
 exact this.2
theorem oe_re {x y : El} (hx : elB x = true) (hy : elB y = true) : oeE x y = reE x y := by
 obtain ⟨k, n, m, v⟩ := x
 obtain ⟨k', n', m', v'⟩ := y
 rw [oeE, reE]
 dsimp only
 by_cases e : k = k'
 ·subst e
  rw [if_pos rfl, if_pos rfl]
  by_cases h1 : k = 1
  ·rw [if_pos h1, if_pos h1]
  rw [if_neg h1, if_neg h1]
  by_cases h2 : k = 2
  ·rw [if_pos h2, if_neg (by omega)]
   rw [elB2 h2] at hx hy
   simp only [Bool.and_eq_true] at hx hy
   refine lex_congr m m' fun a ha b hb => ?_
   rw [omM, rmM, os_cmp (keysB_all hx.2.2 a ha) (keysB_all hy.2.2 b hb)]
   by_cases hz : a.1.toList = b.1.toList
   ·rw [if_pos hz, if_pos ((cmpS_nul _ _).2 hz)]
   ·rw [if_neg hz, if_neg (fun h => hz ((cmpS_nul _ _).1 h))]
  ·by_cases h3 : k = 3
   ·rw [if_neg h2, if_pos h3]
    rw [elB3 h3] at hx hy
    simp only [Bool.and_eq_true] at hx hy
    exact os_cmp hx.2.2 hy.2.2
   ·rw [elB0 h1 h2 h3] at hx; cases hx
 ·rw [if_neg e, if_neg e]
theorem op_rp {p q : List El} (hp : ∀ x ∈ p, elB x = true) (hq : ∀ x ∈ q, elB x = true) : lexL oeE p q = lexL reE p q :=
 lex_congr p q fun x hx y hy => oe_re (hp x hx) (hq y hy)
theorem rlens_any (a b : Int) (w : World) : Calls Tryz.prog 39 #[.int .i64 a, .int .i64 b] w (JPost (cmpI a b) w) := by
 by_cases h1 : a < b
 focus
  have HF : Hid (cmpI a b = -1) := by show _ = _; simp [cmpI, h1]
 rotate_left 1
 focus
  by_cases h2 : b < a
  focus
   have HF : Hid (cmpI a b = 1) := by show _ = _; simp [cmpI, h1, h2]
   have y2 : a > b := h2
  rotate_left 1
  focus
   have HF : Hid (cmpI a b = 0) := by show _ = _; simp [cmpI, h1, h2]
   have y2 : ¬ a > b := h2
  rotate_left 1
 rotate_left 2
 all_goals
  go_enter Tryz.func39, Tryz.ntmps39
  go_wp2_with fail
  go_ret
  rw [HF.out]
  exact ⟨rfl, Below.refl _ _⟩
theorem rtextsT_any (a b : ByteArray) (w : World) : Calls Tryz.prog 60 #[.string a, .string b] w (JPost (cmpT a b) w) := by
 cases h1 : Op.bytesLess a.toList b.toList
 focus
  by_cases h2 : a.toList = b.toList
  focus
   have HF : Hid (cmpT a b = 0) := by show _ = _; rw [cmpT, ltB, if_neg (by simp [h1]), if_pos h2]
   have yK : (a.toList == b.toList) = true := by rw [beq_iff_eq]; exact h2
   clear h2
  rotate_left 1
  focus
   have HF : Hid (cmpT a b = 1) := by show _ = _; simp [cmpT, ltB, h1, h2]
   have yK : (a.toList == b.toList) = false := by rw [beq_eq_false_iff_ne]; exact h2
   clear h2
  rotate_left 1
 rotate_left 2
 focus
  have HF : Hid (cmpT a b = -1) := by show _ = _; simp [cmpT, ltB, h1]
 rotate_left 1
 all_goals
  go_enter Tryz.func60, Tryz.ntmps60
  go_wp2_with fail
  go_ret
  rw [HF.out]
  exact ⟨rfl, Below.refl _ _⟩
theorem rtexts_any (a b : ByteArray) (w : World) : Calls Tryz.prog 60 #[.string a, .string b] w (JPost (cmpS a b) w) := by
 rw [<- cmpT_eq]; exact rtextsT_any a b w
set_option maxHeartbeats 8000000 in
theorem relems_any (x y : El) (S S' : Nat -> Prop) (cs ds : List Value) (w : World) (hl : x.lies w S cs) (hl' : y.lies w S' ds) (hS : ∀ b, S b -> b < w.heap.size) (hS' : ∀ b, S' b -> b < w.heap.size) (hwx : x.wt <= 2147483647) (hwy : y.wt <= 2147483647) :
 Calls Tryz.prog 38 #[.agg cs.toArray, .agg ds.toArray] w (JPost (reE x y) w) := by
 obtain ⟨eq, en, me, ve⟩ := x
 obtain ⟨fq, fn, mf, vf⟩ := y
 obtain ⟨ema, emc, ebm, eom, is, rfl, hk, hnm, hem, hm, hv⟩ := hl
 obtain ⟨fma, fmc, fbm, fom, is', rfl, hk', hnm', hfm, hm', hv'⟩ := hl'
 dsimp only at hk hnm hem hm hv hk' hnm' hfm hm' hv'
 have hwe : wtM me <= 2147483647 /\ ve.wt <= 2147483647 := by unfold El.wt at hwx; dsimp only at hwx; omega
 have hwf : wtM mf <= 2147483647 /\ vf.wt <= 2147483647 := by unfold El.wt at hwy; dsimp only at hwy; omega
 obtain ⟨ek, eb, ei, es, eal, enl, ecl, eam, enm, ecm, rfl⟩ := V.ten hv
 obtain ⟨fk, fb, fi, fs, fal, fnl, fcl, fam, fnm, fcm, rfl⟩ := V.ten hv'
 have HV := hmk hv
 have HV' := hmk hv'
 have HM := hmk hm
 have HM' := hmk hm'
 have hb0 := box_row w [.int .i64 eq, .string en, .slice ema me.length emc, .int .i64 ek, .bool eb, .int .i64 ei, .string es, .slice eal enl ecl, .slice eam enm ecm] 52
 have hb1 : rowAt ((w.alloc (.cells #[.int .i64 eq, .string en, .slice ema me.length emc, .int .i64 ek, .bool eb, .int .i64 ei, .string es, .slice eal enl ecl, .slice eam enm ecm] 52)).alloc (.cells #[.int .i64 fq, .string fn, .slice fma mf.length fmc, .int .i64 fk, .bool fb, .int .i64 fi, .string fs, .slice fal fnl fcl, .slice fam fnm fcm] 52)) w.heap.size 0 [.int .i64 eq, .string en, .slice ema me.length emc, .int .i64 ek, .bool eb, .int .i64 ei, .string es, .slice eal enl ecl, .slice eam enm ecm] := hb0.keep (Below.heap_alloc _ _ _ (by rw [alloc_size]; omega))
 have hb2 : rowAt ((w.alloc (.cells #[.int .i64 eq, .string en, .slice ema me.length emc, .int .i64 ek, .bool eb, .int .i64 ei, .string es, .slice eal enl ecl, .slice eam enm ecm] 52)).alloc (.cells #[.int .i64 fq, .string fn, .slice fma mf.length fmc, .int .i64 fk, .bool fb, .int .i64 fi, .string fs, .slice fal fnl fcl, .slice fam fnm fcm] 52)) (w.heap.size + 1) 0 [.int .i64 fq, .string fn, .slice fma mf.length fmc, .int .i64 fk, .bool fb, .int .i64 fi, .string fs, .slice fal fnl fcl, .slice fam fnm fcm] := by
  have := box_row (w.alloc (.cells #[.int .i64 eq, .string en, .slice ema me.length emc, .int .i64 ek, .bool eb, .int .i64 ei, .string es, .slice eal enl ecl, .slice eam enm ecm] 52)) [.int .i64 fq, .string fn, .slice fma mf.length fmc, .int .i64 fk, .bool fb, .int .i64 fi, .string fs, .slice fal fnl fcl, .slice fam fnm fcm] 52
  rwa [alloc_size] at this
 have B0 := two_below w (.cells #[.int .i64 eq, .string en, .slice ema me.length emc, .int .i64 ek, .bool eb, .int .i64 ei, .string es, .slice eal enl ecl, .slice eam enm ecm] 52) (.cells #[.int .i64 fq, .string fn, .slice fma mf.length fmc, .int .i64 fk, .bool fb, .int .i64 fi, .string fs, .slice fal fnl fcl, .slice fam fnm fcm] 52)
 have hz0 : ((w.alloc (.cells #[.int .i64 eq, .string en, .slice ema me.length emc, .int .i64 ek, .bool eb, .int .i64 ei, .string es, .slice eal enl ecl, .slice eam enm ecm] 52)).alloc (.cells #[.int .i64 fq, .string fn, .slice fma mf.length fmc, .int .i64 fk, .bool fb, .int .i64 fi, .string fs, .slice fal fnl fcl, .slice fam fnm fcm] 52)).heap.size = w.heap.size + 1 + 1 := by rw [alloc_size, alloc_size]
 obtain ⟨d0, d1, d2, d3, d4, d5, d6, d7, d8⟩ := row9z hb1
 obtain ⟨g0, g1, g2, g3, g4, g5, g6, g7, g8⟩ := row9z hb2
 have HB := hmk B0
 clear hm hm' hv hv' hwx hwy
 by_cases hq : eq = fq
 case neg =>
  have y1 : (eq != fq) = true := by rw [bne_iff_ne]; exact hq
  have HF : Hid (reE ⟨eq, en, me, ve⟩ ⟨fq, fn, mf, vf⟩ = cmpI eq fq) := by show _ = _; rw [reE]; dsimp only; rw [if_neg hq]
  generalize reE ⟨eq, en, me, ve⟩ ⟨fq, fn, mf, vf⟩ = RR at *
  by_cases hlt : eq < fq
  focus
   have HG : Hid (RR = -1) := by show _ = _; rw [HF.out, cmpI, if_pos hlt]
  rotate_left 1
  focus
   have HG : Hid (RR = 1) := by show _ = _; rw [HF.out, cmpI, if_neg hlt, if_pos (by omega)]
  rotate_left 1
  all_goals
   clear hq
   go_enter Tryz.func38, Tryz.ntmps38
   go_wp2_with fail
   go_ret
   exact ⟨by rw [HG.out]; rfl, HB.out⟩
 subst hq
 by_cases h1 : eq = 1
 ·have HF : Hid (reE ⟨eq, en, me, ve⟩ ⟨eq, fn, mf, vf⟩ = cmpS en fn) := by show _ = _; rw [reE]; dsimp only; rw [if_pos rfl, if_pos h1]
  generalize reE ⟨eq, en, me, ve⟩ ⟨eq, fn, mf, vf⟩ = RR at *
  subst h1
  have c := hmk (rtexts_any en fn ((w.alloc (.cells #[.int .i64 1, .string en, .slice ema me.length emc, .int .i64 ek, .bool eb, .int .i64 ei, .string es, .slice eal enl ecl, .slice eam enm ecm] 52)).alloc (.cells #[.int .i64 1, .string fn, .slice fma mf.length fmc, .int .i64 fk, .bool fb, .int .i64 fi, .string fs, .slice fal fnl fcl, .slice fam fnm fcm] 52)))
  go_enter Tryz.func38, Tryz.ntmps38
  go_wp2_with fail
  refine c.out.mono ?_
  rintro e w1 ⟨rfl, b1⟩
  go_wp2_with fail
  go_ret
  exact ⟨by rw [HF.out]; rfl, HB.out.trans (b1.mono HB.out.size)⟩
 have z1 : (eq == 1) = false := beq_eq_false_iff_ne.2 h1
 by_cases h3 : eq = 3
 ·have HF : Hid (reE ⟨eq, en, me, ve⟩ ⟨eq, fn, mf, vf⟩ = cmpV ve vf) := by show _ = _; rw [reE]; dsimp only; rw [if_pos rfl, if_neg h1, if_pos h3]
  generalize reE ⟨eq, en, me, ve⟩ ⟨eq, fn, mf, vf⟩ = RR at *
  clear h1 z1
  subst h3
  have c := hmk (rcompare_any ve vf false false S S' _ _ ((w.alloc (.cells #[.int .i64 3, .string en, .slice ema me.length emc, .int .i64 ek, .bool eb, .int .i64 ei, .string es, .slice eal enl ecl, .slice eam enm ecm] 52)).alloc (.cells #[.int .i64 3, .string fn, .slice fma mf.length fmc, .int .i64 fk, .bool fb, .int .i64 fi, .string fs, .slice fal fnl fcl, .slice fam fnm fcm] 52)) (V.lies_keep (fun h => h) (fun b hb => HB.out.block b (hS b hb)) (fun _ h => h) _ HV.out) (V.lies_keep (fun h => h) (fun b hb => HB.out.block b (hS' b hb)) (fun _ h => h) _ HV'.out) (fun b hb => Nat.lt_of_lt_of_le (hS b hb) HB.out.size) (fun b hb => Nat.lt_of_lt_of_le (hS' b hb) HB.out.size) (by omega) (by omega))
  go_enter Tryz.func38, Tryz.ntmps38
  go_wp2_with fail
  refine c.out.mono ?_
  rintro e w1 ⟨rfl, b1⟩
  go_wp2_with fail
  go_ret
  exact ⟨by rw [HF.out]; rfl, HB.out.trans (b1.mono HB.out.size)⟩
 have z3 : (eq == 3) = false := beq_eq_false_iff_ne.2 h3
 have HR : Hid (reE ⟨eq, en, me, ve⟩ ⟨eq, fn, mf, vf⟩ = lexL rmM (me.drop 0) (mf.drop 0)) := by show _ = _; rw [reE]; dsimp only; rw [if_pos rfl, if_neg h1, if_neg h3]; rfl
 generalize reE ⟨eq, en, me, ve⟩ ⟨eq, fn, mf, vf⟩ = RR at *
 clear h1 h3
 have hna : me.length <= 9223372036854775807 := Nat.le_trans hem.le hem.max
 have hnb : mf.length <= 9223372036854775807 := Nat.le_trans hfm.le hfm.max
 go_enter Tryz.func38, Tryz.ntmps38
 go_wp2_with fail
 clear d0 d1 d2 d3 d4 d5 d6 d7 d8 g0 g1 g2 g3 g4 g5 g6 g7 g8
 generalize ((w.alloc (.cells #[.int .i64 eq, .string en, .slice ema me.length emc, .int .i64 ek, .bool eb, .int .i64 ei, .string es, .slice eal enl ecl, .slice eam enm ecm] 52)).alloc (.cells #[.int .i64 eq, .string fn, .slice fma mf.length fmc, .int .i64 fk, .bool fb, .int .i64 fi, .string fs, .slice fal fnl fcl, .slice fam fnm fcm] 52)) = w0 at *
 go_loopw [5] (fun e wr => ∃ j : Nat, (j <= me.length /\ j <= mf.length) /\ e = .int .i64 (j : Int) /\ Below w0.heap.size w0 wr /\ Hid (RR = lexL rmM (me.drop j) (mf.drop j))) (fun e _ => me.length - (RowKit.intOf e).toNat)
 case atStart => exact ⟨0, by omega, rfl, Below.refl _ _, HR⟩
 case round =>
  clear HR
  obtain ⟨j, hj, rfl, bj, HR⟩ := hrel
  have hzr := bj.size
  obtain ⟨d0, d1, d2, d3, d4, d5, d6, d7, d8⟩ := row9z (hb1.keep (bj.block _ (by omega)))
  obtain ⟨g0, g1, g2, g3, g4, g5, g6, g7, g8⟩ := row9z (hb2.keep (bj.block _ (by omega)))
  by_cases hjl : j < me.length /\ j < mf.length
  ·have y2 : (j : Int) < me.length := by omega
   have y3 : (j : Int) < mf.length := by omega
   obtain ⟨hSb, hks, csj, hrow, hlj⟩ := liesM_get HM.out j hjl.1
   obtain ⟨hSb', hks', dsj, hrow', hlj'⟩ := liesM_get HM'.out j hjl.2
   obtain rfl : ema = some ⟨ebm, eom, none⟩ := hem.at_.resolve_left (by omega)
   obtain rfl : fma = some ⟨fbm, fom, none⟩ := hfm.at_.resolve_left (by omega)
   have HK0 : Hid (∀ W, Below w0.heap.size w0 W -> ∀ b, S b -> W.heap[b]? = w.heap[b]?) := fun W hb b h => (hb.block b (by have := hS b h; omega)).trans (HB.out.block b (hS b h))
   have HK1 : Hid (∀ W, Below w0.heap.size w0 W -> ∀ b, S' b -> W.heap[b]? = w.heap[b]?) := fun W hb b h => (hb.block b (by have := hS' b h; omega)).trans (HB.out.block b (hS' b h))
   have hwj : (me[j]'(hjl.1)).2.wt <= 1099511627776 := by have := wtM_mem (List.getElem_mem hjl.1); omega
   have hwj' : (mf[j]'(hjl.2)).2.wt <= 1099511627776 := by have := wtM_mem (List.getElem_mem hjl.2); omega
   obtain ⟨xk, xb, xi, xs, xal, xnl, xcl, xam, xnm, xcm, rfl⟩ := V.ten hlj
   obtain ⟨yk, yb, yi, ys, yal, ynl, ycl, yam, ynm, ycm, rfl⟩ := V.ten hlj'
   have HLJ := hmk hlj
   have HLJ' := hmk hlj'
   have HRW := hmk hrow
   have HRW' := hmk hrow'
   have HD := hmk (lex_drop rmM hjl.1 hjl.2)
   have HRM : Hid (rmM (me[j]'(hjl.1)) (mf[j]'(hjl.2)) = if cmpS (me[j]'(hjl.1)).1 (mf[j]'(hjl.2)).1 = 0 then cmpV (me[j]'(hjl.1)).2 (mf[j]'(hjl.2)).2 else cmpS (me[j]'(hjl.1)).1 (mf[j]'(hjl.2)).1) := rfl
   generalize rmM (me[j]'(hjl.1)) (mf[j]'(hjl.2)) = Z at *
   clear hlj hlj' hrow hrow'
   generalize (me[j]'(hjl.1)).1 = ka at *
   generalize (mf[j]'(hjl.2)).1 = kb at *
   generalize (me[j]'(hjl.1)).2 = xv at *
   generalize (mf[j]'(hjl.2)).2 = yv at *
   have rw0 := row7 (HRW.out.keep (HK0.out wr bj _ hSb))
   have rw1 := row7 (HRW'.out.keep (HK1.out wr bj _ hSb'))
   have hbl : ebm < wr.heap.size := World.block_lt_of_cell? wr _ rw0.1
   have hbl' : fbm < wr.heap.size := World.block_lt_of_cell? wr _ rw1.1
   have p0 : ∀ x : Sub wr.heap.size wr, _ := sub_cell rw0.1 hbl
   have q0 : ∀ x : Sub wr.heap.size wr, _ := sub_cell rw1.1 hbl'
   have u2 : ∀ x : Sub wr.heap.size wr, _ := sub_cell d2 (by omega)
   have v2 : ∀ x : Sub wr.heap.size wr, _ := sub_cell g2 (by omega)
   have CI : Hid (∀ x : Sub wr.heap.size wr, Calls Tryz.prog 60 #[.string ka, .string kb] x.w fun e w'' => e = .returned (.int .i64 (cmpS ka kb)) /\ ∃ y : Sub wr.heap.size wr, w'' = y.w) :=
    sub_call fun w' hb => (rtexts_any ka kb w').mono fun e w'' ⟨he, h2⟩ => ⟨he, hb.trans (h2.mono hb.size)⟩
   generalize cmpS ka kb = C at *
   go_wp2_with fail
   refine wp_region_sub wr.heap.size (by kernel_rfl) (by kernel_rfl) ?_
   repeat (go_big_quiet_step (exact CI.out _))
   refine wpQuiet_nil ?_
   rintro wq ⟨⟨wq', bq⟩, hq⟩
   have hq' : wq = wq' := hq
   subst hq'
   clear hq
   have b1 := bj.trans (bq.mono hzr)
   clear rw0 rw1 p0 q0 u2 v2 CI bq d0 d1 d2 d3 d4 d5 d6 d7 d8 g0 g1 g2 g3 g4 g5 g6 g7 g8
   obtain ⟨d0, d1, d2, d3, d4, d5, d6, d7, d8⟩ := row9z (hb1.keep (b1.block _ (by omega)))
   obtain ⟨g0, g1, g2, g3, g4, g5, g6, g7, g8⟩ := row9z (hb2.keep (b1.block _ (by omega)))
   by_cases hC : C = 0
   ·have HZ : Hid (Z = cmpV xv yv) := by show _ = _; rw [HRM.out, if_pos hC]
    have y4 : (C == 0) = true := by rw [hC]; rfl
    clear hC HRM
    have rw0 := row7 (HRW.out.keep (HK0.out wq b1 _ hSb))
    have rw1 := row7 (HRW'.out.keep (HK1.out wq b1 _ hSb'))
    have hbl : ebm < wq.heap.size := World.block_lt_of_cell? wq _ rw0.1
    have hbl' : fbm < wq.heap.size := World.block_lt_of_cell? wq _ rw1.1
    have hzq := b1.size
    have p0 : ∀ x : Sub wq.heap.size wq, _ := sub_cell rw0.1 hbl
    have p1 : ∀ x : Sub wq.heap.size wq, _ := sub_cell rw0.2.1 hbl
    have p2 : ∀ x : Sub wq.heap.size wq, _ := sub_cell rw0.2.2.1 hbl
    have p3 : ∀ x : Sub wq.heap.size wq, _ := sub_cell rw0.2.2.2.1 hbl
    have p4 : ∀ x : Sub wq.heap.size wq, _ := sub_cell rw0.2.2.2.2.1 hbl
    have p5 : ∀ x : Sub wq.heap.size wq, _ := sub_cell rw0.2.2.2.2.2.1 hbl
    have p6 : ∀ x : Sub wq.heap.size wq, _ := sub_cell rw0.2.2.2.2.2.2 hbl
    have q0 : ∀ x : Sub wq.heap.size wq, _ := sub_cell rw1.1 hbl'
    have q1 : ∀ x : Sub wq.heap.size wq, _ := sub_cell rw1.2.1 hbl'
    have q2 : ∀ x : Sub wq.heap.size wq, _ := sub_cell rw1.2.2.1 hbl'
    have q3 : ∀ x : Sub wq.heap.size wq, _ := sub_cell rw1.2.2.2.1 hbl'
    have q4 : ∀ x : Sub wq.heap.size wq, _ := sub_cell rw1.2.2.2.2.1 hbl'
    have q5 : ∀ x : Sub wq.heap.size wq, _ := sub_cell rw1.2.2.2.2.2.1 hbl'
    have q6 : ∀ x : Sub wq.heap.size wq, _ := sub_cell rw1.2.2.2.2.2.2 hbl'
    have u2 : ∀ x : Sub wq.heap.size wq, _ := sub_cell d2 (by omega)
    have v2 : ∀ x : Sub wq.heap.size wq, _ := sub_cell g2 (by omega)
    have CI : Hid (∀ x : Sub wq.heap.size wq, Calls Tryz.prog 61 #[.agg #[.int .i64 xk, .bool xb, .int .i64 xi, .string xs, .slice xal xnl xcl, .slice xam xnm xcm], .agg #[.int .i64 yk, .bool yb, .int .i64 yi, .string ys, .slice yal ynl ycl, .slice yam ynm ycm]] x.w fun e w'' => e = .returned (.int .i64 (cmpV xv yv)) /\ ∃ y : Sub wq.heap.size wq, w'' = y.w) :=
     sub_call fun w' hb => by
      have hb' := b1.trans (hb.mono hzq)
      exact (rcompare_any xv yv false false S S' _ _ w' (V.lies_keep (fun h => h) (HK0.out w' hb') (fun _ h => h) _ HLJ.out) (V.lies_keep (fun h => h) (HK1.out w' hb') (fun _ h => h) _ HLJ'.out) (fun b h => by have := hS b h; have := hb'.size; omega) (fun b h => by have := hS' b h; have := hb'.size; omega) hwj hwj').mono fun e w'' ⟨he, h2⟩ => ⟨he, hb.trans (h2.mono hb.size)⟩
    rw [<- HZ.out] at CI
    clear rw0 rw1
    rename World => wp
    go_wp2_with fail
    refine wp_region_sub wp.heap.size (by kernel_rfl) (by kernel_rfl) ?_
    repeat (go_big_quiet_step (exact CI.out _))
    refine wpQuiet_nil ?_
    rintro wq ⟨⟨wq', bq⟩, hq⟩
    have hq' : wq = wq' := hq
    subst hq'
    clear hq
    have BQ := hmk (b1.trans (bq.mono hzq))
    by_cases hZ : Z = 0
    ·have HF : Hid (RR = lexL rmM (me.drop (j + 1)) (mf.drop (j + 1))) := by show _ = _; rw [HR.out, HD.out, if_pos hZ]
     have y5 : (Z != 0) = false := by rw [hZ]; rfl
     clear hZ
     go_wp2_with fail
     go_roundw
     case rel => exact ⟨j + 1, by omega, by go_num, BQ.out, HF⟩
     case measure => simp [RowKit.intOf]; omega
    ·have HF : Hid (RR = Z) := by show _ = _; rw [HR.out, HD.out, if_neg hZ]
     have y5 : (Z != 0) = true := by rw [bne_iff_ne]; exact hZ
     clear hZ
     go_wp2_with fail
     go_ret
     exact ⟨by rw [HF.out]; rfl, HB.out.trans (BQ.out.mono (by omega))⟩
   ·have HF : Hid (RR = C) := by show _ = _; rw [HR.out, HD.out, HRM.out, if_neg hC, if_neg hC]
    have y4 : (C == 0) = false := beq_eq_false_iff_ne.2 hC
    have y5 : (C != 0) = true := by rw [bne_iff_ne]; exact hC
    have BQ := hmk b1
    clear hC HRM
    go_wp2_with fail
    go_ret
    exact ⟨by rw [HF.out]; rfl, HB.out.trans (BQ.out.mono (by omega))⟩
  ·have HF : Hid (RR = cmpI me.length mf.length) := by show _ = _; rw [HR.out, lex_end rmM hj.1 hj.2 hjl]
   have c := hmk (rlens_any me.length mf.length wr)
   have BJ := hmk bj
   by_cases ha : j < me.length
   focus
    have y2 : (j : Int) < me.length := by omega
    have y3 : ¬ (j : Int) < mf.length := by omega
   rotate_left 1
   focus
    have y2 : ¬ (j : Int) < me.length := by omega
   rotate_left 1
   all_goals
    go_wp2_with fail
    refine c.out.mono ?_
    rintro e w1 ⟨rfl, b1⟩
    go_wp2_with fail
    go_ret
    exact ⟨by rw [HF.out]; rfl, HB.out.trans ((BJ.out.trans (b1.mono hzr)).mono (by omega))⟩
end Go.Proofs.YtdgfjdhobdfglaaGreatDoor
set_option maxRecDepth 100000
namespace Go.Proofs.YtdgfjdhobdfglaaGreatDoor
open Go.RowKit
def Own (B : Nat) (v : Value) (l : List UInt8) (w : World) : Prop := w.ownsRow B 5 1 v l.length (Lib.byteCells l)
theorem Own.alloc {B : Nat} {v : Value} {l : List UInt8} {w : World} (h : Own B v l w) (o : Obj) : Own B v l (w.alloc o) := World.ownsRow.alloc h o
theorem Own.nil (B : Nat) (w : World) : Own B (.slice none 0 0) [] w := World.ownsRow_nil w B 5 1
end Go.Proofs.YtdgfjdhobdfglaaGreatDoor
set_option maxRecDepth 100000
namespace Go.Proofs.YtdgfjdhobdfglaaGreatDoor
open Go.RowKit
theorem OwnM.out {w w0 : World} {S T : Nat -> Prop} {g n cap : Nat} {l : List Mem} (h : OwnM false w 0 S (.slice (some ⟨g, 0, none⟩) n cap) (l.map some)) (hn : n = l.length) (hST : ∀ x, S x -> T x) (hg : w0.heap.size <= g) : Headed (some ⟨g, 0, none⟩) l.length cap g 0 /\ liesM false w (fun y => T y \/ (w0.heap.size <= y /\ y < w.heap.size)) l g 0 := by
 have h1 := h.le
 have h2 := h.lt (g := g) rfl
 simp only [List.length_map] at h1
 refine ⟨⟨h1.1, h1.2, .inr rfl, fun h => by cases h⟩, liesM_mk fun j hj => ?_⟩
 obtain ⟨cs, r1, r2⟩ := h.at (by simp [hn]) j (by simpa using hj)
 rw [List.getElem_map] at r2
 obtain ⟨cs', rfl, hk, r3⟩ := r2
 exact ⟨.inr ⟨hg, h2.2⟩, hk, cs', r1, V.lies_keep (fun h => h) (fun _ _ => rfl) (fun b hb => .inl (hST b hb)) _ r3⟩
end Go.Proofs.YtdgfjdhobdfglaaGreatDoor
set_option maxRecDepth 100000
namespace Go.Proofs.YtdgfjdhobdfglaaGreatDoor
open Go.RowKit Go.Lib
theorem u8_tri (x y : UInt8) (h1 : ¬ x < y) (h2 : ¬ y < x) : x = y := by
 rcases Nat.lt_trichotomy x.toNat y.toNat with h | h | h
 ·exact absurd h h1
 ·exact UInt8.toNat_inj.1 h
 ·exact absurd h h2
theorem cmp_anti : ∀ a b : List UInt8, compareBytes b a = - compareBytes a b
 | [], [] => by simp [compareBytes]
 | [], _ :: _ => by simp [compareBytes]
 | _ :: _, [] => by simp [compareBytes]
 | x :: t, y :: u => by
  have ih := cmp_anti t u
  rw [compareBytes, compareBytes]
  by_cases h1 : x < y
  ·have h2 : ¬ y < x := fun h => Nat.lt_asymm h1 h
   rw [if_neg h2, if_pos h1, if_pos h1]; rfl
  ·by_cases h2 : y < x
   ·rw [if_pos h2, if_neg h1, if_pos h2]
   ·rw [if_neg h2, if_neg h1, if_neg h1, if_neg h2, ih]
theorem cmp_trans : ∀ a b c : List UInt8, compareBytes a b = -1 -> compareBytes b c = -1 -> compareBytes a c = -1
 | [], [], c, h, _ => by simp [compareBytes] at h
 | [], _ :: _, [], _, h => by simp [compareBytes] at h
 | [], _ :: _, _ :: _, _, _ => by simp [compareBytes]
 | _ :: _, [], c, h, _ => by simp [compareBytes] at h
 | _ :: _, _ :: _, [], _, h => by simp [compareBytes] at h
 | x :: t, y :: u, z :: v, h, h' => by
  rw [compareBytes] at h h' ⊢
  by_cases h1 : x < y
  ·by_cases h2 : y < z
   ·rw [if_pos (show x < z from Nat.lt_trans h1 h2)]
   ·rw [if_neg h2] at h'
    by_cases h3 : z < y
    ·rw [if_pos h3] at h'; simp at h'
    ·rw [<- u8_tri y z h2 h3, if_pos h1]
  ·rw [if_neg h1] at h
   by_cases h3 : y < x
   ·rw [if_pos h3] at h; simp at h
   ·rw [if_neg h3] at h
    have e := u8_tri x y h1 h3
    subst e
    by_cases h2 : x < z
    ·rw [if_pos h2]
    ·rw [if_neg h2] at h' ⊢
     by_cases h4 : z < x
     ·rw [if_pos h4] at h'; simp at h'
     ·rw [if_neg h4] at h' ⊢
      exact cmp_trans t u v h h'
end Go.Proofs.YtdgfjdhobdfglaaGreatDoor
