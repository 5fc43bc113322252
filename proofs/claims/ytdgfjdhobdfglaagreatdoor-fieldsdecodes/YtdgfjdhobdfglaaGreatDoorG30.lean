/- joined: OdcP BckP -/
import Derived.Test.YtdgfjdhobdfglaaGreatDoorG29
set_option linter.unusedSimpArgs false
set_option linter.unusedVariables false
set_option maxRecDepth 100000
namespace Go.Proofs.YtdgfjdhobdfglaaGreatDoor
open Go.RowKit Go.Lib
theorem errP_yes {p : List El} (h : pathB p = true) : errP p = 0 := by rw [errP, if_pos h]
theorem errP_no {p : List El} (h : pathB p = false) : errP p = 90 := by rw [errP, if_neg (by rw [h]; simp)]
def cmpP (a b : List El) : Int := if pathB a = true /\ pathB b = true then lexL reE a b else 0
theorem cmpP_no {a b : List El} (h : ¬ (pathB a = true /\ pathB b = true)) : cmpP a b = 0 := by rw [cmpP, if_neg h]
theorem cmpP_yes {a b : List El} (h : pathB a = true) (h' : pathB b = true) : cmpP a b = lexL reE a b := by rw [cmpP, if_pos ⟨h, h'⟩]
set_option maxHeartbeats 8000000 in
theorem rcmpP_any (a b : List El) (S S' : Nat -> Prop) (aa : Option Addr) (ca ba oa : Nat) (ab : Option Addr) (cb bb ob : Nat) (w : World) (hha : Headed aa a.length ca ba oa) (hla : liesP w S a ba oa) (hhb : Headed ab b.length cb bb ob) (hlb : liesP w S' b bb ob) (hS : ∀ x, S x -> x < w.heap.size) (hS' : ∀ x, S' x -> x < w.heap.size) (hwa : wtP a <= 2147483647) (hwb : wtP b <= 2147483647) :
 Calls Tryz.prog 26 #[.slice aa a.length ca, .slice ab b.length cb] w (JPost (cmpP a b) w) := by
 have HA := hmk hla
 have HB := hmk hlb
 clear hla hlb
 have hna : a.length <= 9223372036854775807 := Nat.le_trans hha.le hha.max
 have hnb : b.length <= 9223372036854775807 := Nat.le_trans hhb.le hhb.max
 have ca_ := hmk (rpcheck_any a S aa ca ba oa w hha HA.out hS hwa)
 cases ha : pathB a with
 | false =>
  have ya : (((errP a : Nat) : Int) != 0) = true := by rw [errP_no ha]; rfl
  generalize errP a = Ea at *
  go_enter Tryz.func26, Tryz.ntmps26
  go_wp2_with fail
  refine ca_.out.mono ?_
  rintro e w1 ⟨rfl, b1⟩
  go_wp2_with fail
  go_ret
  exact ⟨by rw [cmpP_no (by rw [ha]; simp)]; rfl, b1⟩
 | true =>
 cases hb : pathB b with
 | false =>
  have ya : (((errP a : Nat) : Int) != 0) = false := by rw [errP_yes ha]; rfl
  have yb : (((errP b : Nat) : Int) != 0) = true := by rw [errP_no hb]; rfl
  have cb_ : Hid (∀ W, Below w.heap.size w W -> Calls Tryz.prog 25 #[.slice ab b.length cb] W (NPost (errP b) W)) := fun W h => rpcheck_any b S' ab cb bb ob W hhb (liesP_keep (fun x hx => h.block x (hS' x hx)) (fun _ h => h) HB.out) (fun x hx => Nat.lt_of_lt_of_le (hS' x hx) h.size) hwb
  generalize errP a = Ea at *
  generalize errP b = Eb at *
  go_enter Tryz.func26, Tryz.ntmps26
  go_wp2_with fail
  refine ca_.out.mono ?_
  rintro e w1 ⟨rfl, b1⟩
  go_wp2_with fail
  refine (cb_.out w1 b1).mono ?_
  rintro e w2 ⟨rfl, b2⟩
  have b2' := b1.trans (b2.mono b1.size)
  go_wp2_with fail
  go_ret
  exact ⟨by rw [cmpP_no (by rw [hb]; simp)]; rfl, b2'⟩
 | true =>
  have ya : (((errP a : Nat) : Int) != 0) = false := by rw [errP_yes ha]; rfl
  have yb : (((errP b : Nat) : Int) != 0) = false := by rw [errP_yes hb]; rfl
  have cb_ : Hid (∀ W, Below w.heap.size w W -> Calls Tryz.prog 25 #[.slice ab b.length cb] W (NPost (errP b) W)) := fun W h => rpcheck_any b S' ab cb bb ob W hhb (liesP_keep (fun x hx => h.block x (hS' x hx)) (fun _ h => h) HB.out) (fun x hx => Nat.lt_of_lt_of_le (hS' x hx) h.size) hwb
  generalize errP a = Ea at *
  generalize errP b = Eb at *
  go_enter Tryz.func26, Tryz.ntmps26
  go_wp2_with fail
  refine ca_.out.mono ?_
  rintro e w1 ⟨rfl, b1⟩
  go_wp2_with fail
  refine (cb_.out w1 b1).mono ?_
  rintro e w2 ⟨rfl, b2⟩
  have b2' := b1.trans (b2.mono b1.size)
  clear b1 b2 ca_ cb_
  have HC := hmk (cmpP_yes ha hb)
  generalize cmpP a b = RR at *
  clear ha hb
  go_wp2_with fail
  go_loopw [5] (fun e wr => ∃ j : Nat, (j <= a.length /\ j <= b.length) /\ e = .int .i64 (j : Int) /\ Below w.heap.size w wr /\ Hid (lexL reE a b = lexL reE (a.drop j) (b.drop j))) (fun e _ => a.length - (RowKit.intOf e).toNat)
  case atStart => exact ⟨0, by omega, rfl, b2', rfl⟩
  case round =>
   clear b2'
   obtain ⟨j, hj, rfl, bj, HR⟩ := hrel
   have hzr := bj.size
   by_cases hjl : j < a.length /\ j < b.length
   ·have y2 : (j : Int) < a.length := by omega
    have y3 : (j : Int) < b.length := by omega
    obtain ⟨hSb, csj, hrow, hlj⟩ := HA.out j hjl.1
    obtain ⟨hSb', dsj, hrow', hlj'⟩ := HB.out j hjl.2
    obtain rfl : aa = some ⟨ba, oa, none⟩ := hha.at_.resolve_left (by omega)
    obtain rfl : ab = some ⟨bb, ob, none⟩ := hhb.at_.resolve_left (by omega)
    have hk0 : ∀ x, S x -> wr.heap[x]? = w.heap[x]? := fun x hx => bj.block x (hS x hx)
    have hk1 : ∀ x, S' x -> wr.heap[x]? = w.heap[x]? := fun x hx => bj.block x (hS' x hx)
    have hwx : (a[j]'(hjl.1)).wt <= 2147483647 := by have := wtP_mem (List.getElem_mem hjl.1); omega
    have hwy : (b[j]'(hjl.2)).wt <= 2147483647 := by have := wtP_mem (List.getElem_mem hjl.2); omega
    obtain ⟨eq, en, ema, eml, emc, ek, eb, ei, es, eal, enl, ecl, eam, enm, ecm, rfl⟩ := El.nine hlj
    obtain ⟨fq, fn, fma, fml, fmc, fk, fb, fi, fs, fal, fnl, fcl, fam, fnm, fcm, rfl⟩ := El.nine hlj'
    have rw0 := row9 (hrow.keep (hk0 _ hSb))
    have rw1 := row9 (hrow'.keep (hk1 _ hSb'))
    have hbl : ba < wr.heap.size := World.block_lt_of_cell? wr _ rw0.1
    have hbl' : bb < wr.heap.size := World.block_lt_of_cell? wr _ rw1.1
    have p0 : ∀ x : Sub wr.heap.size wr, _ := sub_cell rw0.1 hbl
    have p1 : ∀ x : Sub wr.heap.size wr, _ := sub_cell rw0.2.1 hbl
    have p2 : ∀ x : Sub wr.heap.size wr, _ := sub_cell rw0.2.2.1 hbl
    have p3 : ∀ x : Sub wr.heap.size wr, _ := sub_cell rw0.2.2.2.1 hbl
    have p4 : ∀ x : Sub wr.heap.size wr, _ := sub_cell rw0.2.2.2.2.1 hbl
    have p5 : ∀ x : Sub wr.heap.size wr, _ := sub_cell rw0.2.2.2.2.2.1 hbl
    have p6 : ∀ x : Sub wr.heap.size wr, _ := sub_cell rw0.2.2.2.2.2.2.1 hbl
    have p7 : ∀ x : Sub wr.heap.size wr, _ := sub_cell rw0.2.2.2.2.2.2.2.1 hbl
    have p8 : ∀ x : Sub wr.heap.size wr, _ := sub_cell rw0.2.2.2.2.2.2.2.2 hbl
    have q0 : ∀ x : Sub wr.heap.size wr, _ := sub_cell rw1.1 hbl'
    have q1 : ∀ x : Sub wr.heap.size wr, _ := sub_cell rw1.2.1 hbl'
    have q2 : ∀ x : Sub wr.heap.size wr, _ := sub_cell rw1.2.2.1 hbl'
    have q3 : ∀ x : Sub wr.heap.size wr, _ := sub_cell rw1.2.2.2.1 hbl'
    have q4 : ∀ x : Sub wr.heap.size wr, _ := sub_cell rw1.2.2.2.2.1 hbl'
    have q5 : ∀ x : Sub wr.heap.size wr, _ := sub_cell rw1.2.2.2.2.2.1 hbl'
    have q6 : ∀ x : Sub wr.heap.size wr, _ := sub_cell rw1.2.2.2.2.2.2.1 hbl'
    have q7 : ∀ x : Sub wr.heap.size wr, _ := sub_cell rw1.2.2.2.2.2.2.2.1 hbl'
    have q8 : ∀ x : Sub wr.heap.size wr, _ := sub_cell rw1.2.2.2.2.2.2.2.2 hbl'
    have CI : Hid (∀ x : Sub wr.heap.size wr, Calls Tryz.prog 38 #[.agg #[.int .i64 eq, .string en, .slice ema eml emc, .int .i64 ek, .bool eb, .int .i64 ei, .string es, .slice eal enl ecl, .slice eam enm ecm], .agg #[.int .i64 fq, .string fn, .slice fma fml fmc, .int .i64 fk, .bool fb, .int .i64 fi, .string fs, .slice fal fnl fcl, .slice fam fnm fcm]] x.w fun e w'' => e = .returned (.int .i64 (reE (a[j]'(hjl.1)) (b[j]'(hjl.2)))) /\ ∃ y : Sub wr.heap.size wr, w'' = y.w) :=
     sub_call fun w' hb => by
      refine (relems_any (a[j]'(hjl.1)) (b[j]'(hjl.2)) S S' _ _ w' (El.lies_keep (fun x hx => (hb.block x (by have := hS x hx; omega)).trans (hk0 x hx)) (fun _ h => h) hlj) (El.lies_keep (fun x hx => (hb.block x (by have := hS' x hx; omega)).trans (hk1 x hx)) (fun _ h => h) hlj') (fun x hx => by have := hS x hx; have := hb.size; omega) (fun x hx => by have := hS' x hx; have := hb.size; omega) hwx hwy).mono ?_
      rintro e w'' ⟨he, h2⟩
      exact ⟨he, hb.trans (h2.mono hb.size)⟩
    have HD : Hid (lexL reE (a.drop j) (b.drop j) = if reE (a[j]'(hjl.1)) (b[j]'(hjl.2)) = 0 then lexL reE (a.drop (j + 1)) (b.drop (j + 1)) else reE (a[j]'(hjl.1)) (b[j]'(hjl.2))) := by
     show _ = _
     rw [lex_drop reE hjl.1 (show j < b.length by omega)]
    generalize reE (a[j]'(hjl.1)) (b[j]'(hjl.2)) = Z at *
    clear rw0 rw1 hlj hlj' hrow hrow' hk0 hk1
    go_wp2_with fail
    refine wp_region_sub wr.heap.size (by kernel_rfl) (by kernel_rfl) ?_
    repeat (go_big_quiet_step (exact CI.out _))
    refine wpQuiet_nil ?_
    rintro wq ⟨⟨wq', bq⟩, hq⟩
    have hq' : wq = wq' := hq
    subst hq'
    clear hq
    have BQ := hmk (bj.trans (bq.mono hzr))
    by_cases hZ : Z = 0
    ·have HF : Hid (lexL reE a b = lexL reE (a.drop (j + 1)) (b.drop (j + 1))) := by show _ = _; rw [HR.out, HD.out, if_pos hZ]
     have y4 : (Z != 0) = false := by rw [hZ]; rfl
     clear hZ
     go_wp2_with fail
     go_roundw
     case rel => exact ⟨j + 1, ⟨by omega, by omega⟩, by go_num, BQ.out, HF⟩
     case measure => simp [RowKit.intOf]; omega
    ·have HF : Hid (lexL reE a b = Z) := by show _ = _; rw [HR.out, HD.out, if_neg hZ]
     have y4 : (Z != 0) = true := by rw [bne_iff_ne]; exact hZ
     have HZ := hmk hZ
     clear hZ
     go_wp2_with fail
     go_ret
     exact ⟨by rw [HC.out, HF.out]; rfl, BQ.out⟩
   ·have HF : Hid (lexL reE a b = cmpI a.length b.length) := by show _ = _; rw [HR.out, lex_end reE hj.1 hj.2 hjl]
    have c := hmk (rlens_any a.length b.length wr)
    have BJ := hmk bj
    by_cases h1 : j < a.length
    focus
     have y2 : (j : Int) < a.length := by omega
     have y3 : ¬ (j : Int) < b.length := by omega
    rotate_left 1
    focus
     have y2 : ¬ (j : Int) < a.length := by omega
    rotate_left 1
    all_goals
     go_wp2_with fail
     refine c.out.mono ?_
     rintro e w1 ⟨rfl, b1⟩
     go_wp2_with fail
     go_ret
     exact ⟨by rw [HC.out, HF.out]; rfl, BJ.out.trans (b1.mono hzr)⟩
end Go.Proofs.YtdgfjdhobdfglaaGreatDoor
set_option maxRecDepth 100000
namespace Go.Proofs.YtdgfjdhobdfglaaGreatDoor
open Go.RowKit Go.Lib
theorem dig_ofNat (d : Nat) (h : d < 10) : (UInt8.ofNat (48 + d)).toNat = 48 + d := by
 rw [UInt8.toNat_ofNat']; omega
theorem puM_app (M : Nat) : ∀ (l : List UInt8) (acc u : Nat) (c : UInt8), parseUintM M acc l = .ok u -> 48 <= c.toNat /\ c.toNat <= 57 -> u < 1844674407370955162 -> u * 10 + (c.toNat - 48) <= M -> parseUintM M acc (l ++ [c]) = .ok (u * 10 + (c.toNat - 48))
 | [], acc, u, c, h, hc, h1, h2 => by
  simp only [parseUintM, NumEnd.ok.injEq] at h
  subst h
  simp only [List.nil_append, parseUintM]
  rw [if_pos hc, if_neg (by omega), if_neg (by omega)]
 | x :: l, acc, u, c, h, hc, h1, h2 => by
  simp only [List.cons_append, parseUintM] at h ⊢
  split at h
  ·rename_i hx
   rw [if_pos hx]
   split at h
   ·cases h
   ·rename_i hy
    rw [if_neg hy]
    split at h
    ·cases h
    ·rename_i hz
     rw [if_neg hz]
     exact puM_app M l _ u c h hc h1 h2
  ·cases h
theorem puM_dec : ∀ (n u : Nat), u <= n -> u <= 18446744073709551615 -> parseUintM 18446744073709551615 0 (decDigits u) = .ok u
 | n, u, hn, hu => by
  by_cases h : u < 10
  ·rw [decDigits_one h]
   simp only [parseUintM]
   have := dig_ofNat u h
   rw [if_pos (by omega), if_neg (by omega), if_neg (by omega)]
   congr 1
   omega
  ·rw [decDigits, dif_neg h]
   have e := dig_ofNat (u % 10) (by omega)
   cases n with
   | zero => omega
   | succ n =>
    rw [puM_app _ _ 0 (u / 10) _ (puM_dec n (u / 10) (by omega) (by omega)) (by omega) (by omega) (by omega)]
    congr 1
    omega
theorem dec_ne (u : Nat) : decDigits u ≠ [] := by
 rw [decDigits]
 split <;> simp
theorem dec_dig : ∀ (n u : Nat), u <= n -> ∀ c ∈ decDigits u, 48 <= c.toNat /\ c.toNat <= 57
 | n, u, hn, c, hc => by
  by_cases h : u < 10
  ·rw [decDigits_one h] at hc
   have := dig_ofNat u h
   rw [List.mem_singleton] at hc
   rw [hc]
   omega
  ·rw [decDigits, dif_neg h] at hc
   rcases List.mem_append.1 hc with hc | hc
   ·cases n with
    | zero => omega
    | succ n => exact dec_dig n (u / 10) (by omega) c hc
   ·have := dig_ofNat (u % 10) (by omega)
    rw [List.mem_singleton] at hc
    rw [hc]
    omega
theorem pi_itoa (i : Int) (h : In64 i) : parseIntB 64 (itoa i) = .ok i := by
 obtain ⟨h1, h2⟩ := h
 unfold itoa
 by_cases hn : i < 0
 ·rw [if_pos hn]
  unfold parseIntB
  dsimp only
  have e45 : (45 : UInt8).toNat = 45 := rfl
  rw [if_pos (by right; rfl), parseUintB, if_neg (dec_ne _)]
  have e2 : (2 : Nat) ^ 64 - 1 = 18446744073709551615 := by decide
  rw [e2, puM_dec i.natAbs i.natAbs (Nat.le_refl _) (by omega)]
  dsimp only
  rw [if_neg (fun h => h.1 rfl), if_neg (fun h => by have := h.2; have : (2 : Nat) ^ (64 - 1) = 9223372036854775808 := by decide
                                                     omega), if_pos e45]
  congr 1
  omega
 ·rw [if_neg hn]
  have hd := dec_dig i.toNat i.toNat (Nat.le_refl _)
  unfold parseIntB
  split
  ·rename_i h0; exact absurd h0 (dec_ne _)
  ·rename_i c r h0
   have hc := hd c (by rw [h0]; simp)
   dsimp only
   rw [if_neg (by omega), parseUintB, if_neg (dec_ne _)]
   have e2 : (2 : Nat) ^ 64 - 1 = 18446744073709551615 := by decide
   have e3 : (2 : Nat) ^ (64 - 1) = 9223372036854775808 := by decide
   rw [e2, puM_dec i.toNat i.toNat (Nat.le_refl _) (by omega)]
   dsimp only
   rw [if_neg (fun h => by have := h.2; omega), if_neg (fun h => by have := h.1; omega), if_neg (by omega)]
   congr 1
   omega
theorem itoa_set (i : Int) : ∀ c ∈ itoa i, minDig.contains c = true := by
 have key : ∀ c : UInt8, 48 <= c.toNat /\ c.toNat <= 57 -> minDig.contains c = true := by
  intro c hc
  have : ∀ d : Fin 256, 48 <= d.val /\ d.val <= 57 -> minDig.contains (UInt8.ofNat d.val) = true := by decide +kernel
  have h := this ⟨c.toNat, c.toNat_lt⟩ hc
  simpa using h
 intro c hc
 unfold itoa at hc
 split at hc
 ·rcases List.mem_cons.1 hc with rfl | hc
  ·decide
  ·exact key c (dec_dig _ _ (Nat.le_refl _) c hc)
 ·exact key c (dec_dig _ _ (Nat.le_refl _) c hc)
theorem tk_at (a p t : List UInt8) : tkB (a ++ t) a.length p = hasPrefix t p := by
 unfold tkB
 rw [List.drop_left]
theorem hp_yes (p t : List UInt8) : hasPrefix (p ++ t) p = true := by
 unfold hasPrefix
 exact List.isPrefixOf_iff_prefix.2 (List.prefix_append p t)
theorem hp_no {c d : UInt8} (t p : List UInt8) (h : c ≠ d) : hasPrefix (c :: t) (d :: p) = false := by
 unfold hasPrefix
 simp [List.isPrefixOf, Ne.symm h]
theorem quo_back (a l u : List UInt8) (hv : validD l = true) : quoF (a ++ (Q.qt l ++ u)) a.length = some (⟨l.toArray⟩, a.length + (Q.qt l).length) := by
 rw [quoF, Q.unq_back l a u hv, if_pos rfl]
def stopN : List UInt8 -> Prop
 | [] => True
 | c :: _ => okR 1 c.toNat = false
theorem prefN_stop : ∀ (i : Nat) (t : List UInt8), 0 < i -> stopN t -> prefN i t = i
 | i, [], _, _ => rfl
 | i, c :: t, hi, h => by
  have h' : okR 1 c.toNat = false := h
  rw [okR_pos 1 _ (by omega)] at h'
  rw [prefN, if_neg (by rw [okR_pos i _ (by omega), h']; decide)]
theorem prefN_app : ∀ (l : List UInt8) (i : Nat) (t : List UInt8), allN i l = true -> 0 < i + l.length -> stopN t -> prefN i (l ++ t) = i + l.length
 | [], i, t, _, h0, ht => by rw [List.nil_append, prefN_stop i t (by simpa using h0) ht]; simp
 | c :: l, i, t, h, h0, ht => by
  rw [allN, Bool.and_eq_true] at h
  rw [List.cons_append, prefN, if_pos h.1, prefN_app l (i + 1) t h.2 (by omega) ht, List.length_cons]
  omega
theorem nam_back (a : List UInt8) (n : ByteArray) (t : List UInt8) (hv : utfB n = true) (ht : stopN t) : namF (a ++ (nmT n.data.toList ++ t)) a.length = some (n, a.length + (nmT n.data.toList).length) := by
 have hb : (⟨n.data.toList.toArray⟩ : ByteArray) = n := by simp
 unfold namF
 rw [List.drop_left]
 unfold nmT
 by_cases hp : plnN n.data.toList = true
 ·rw [if_pos hp]
  unfold plnN at hp
  rw [Bool.and_eq_true] at hp
  have hne : 0 < n.data.toList.length := by
   cases h : n.data.toList with
   | nil => rw [h] at hp; simp at hp
   | cons _ _ => simp
  have e := prefN_app n.data.toList 0 t hp.2 (by omega) ht
  rw [Nat.zero_add] at e
  rw [e, if_pos hne, List.take_left, hb]
 ·rw [if_neg hp]
  have e : prefN 0 (Q.qt n.data.toList ++ t) = 0 := by
   show prefN 0 (34 :: _) = 0
   rw [prefN, if_neg (by decide)]
  have hv' : validD n.data.toList = true := by simpa [utfB] using hv
  rw [e, if_neg (by omega), quo_back a _ t hv', hb]
theorem sca_cases {v : V} (h : sizS v = true) : (∃ b, v = .mk 1 b 0 ⟨#[]⟩ [] []) \/ (∃ i, v = .mk 2 false i ⟨#[]⟩ [] []) \/ (∃ s, validD s.data.toList = true /\ v = .mk 3 false 0 s [] []) := by
 obtain ⟨k, b, i, s, l, m⟩ := v
 obtain ⟨hk, hv, rfl, rfl⟩ := sizS_good h
 simp only [sizS, Bool.and_eq_true, decide_eq_true_eq] at h
 have gv := chkV_allG 40 _ 0 _ (okV_true h.1)
 rw [allG] at gv
 have p := goodB_plain gv.1
 have es : (k = 3 \/ s = ⟨#[]⟩) := p.2.2.2.2.1.imp id (fun e => by
  have : s.toList = [] := by simpa using e
  exact bytes_eq (by rw [this]; rw [ByteArray.toList_eq]))
 rcases hk with rfl | rfl | rfl
 ·refine .inl ⟨b, ?_⟩
  obtain rfl : i = 0 := p.2.2.2.1.resolve_left (by omega)
  rw [es.resolve_left (by omega)]
 ·refine .inr (.inl ⟨i, ?_⟩)
  obtain rfl : b = false := p.2.2.1.resolve_left (by omega)
  rw [es.resolve_left (by omega)]
 ·refine .inr (.inr ⟨s, hv, ?_⟩)
  obtain rfl : b = false := p.2.2.1.resolve_left (by omega)
  obtain rfl : i = 0 := p.2.2.2.1.resolve_left (by omega)
  rfl
end Go.Proofs.YtdgfjdhobdfglaaGreatDoor
