/- joined: MovG TknA -/
import Derived.Test.YtgnofbigggmilaaGreatDoorG37
import Derived.Test.YtgnofbigggmilaaGreatDoorTakA
import Derived.Test.YtgnofbigggmilaaGreatDoorVgtA
set_option linter.unusedSimpArgs false
set_option linter.unusedVariables false
namespace Go.Proofs.YtgnofbigggmilaaGreatDoor
open Go.RowKit Go.Lib
theorem dec_valid (n : Nat) : validD (digB n).data.toList = true := valid_ascii _ fun c hc => by
 have := dec_digit n c (by simpa [digB] using hc); omega
theorem dec_esp (n : Nat) : esp (digB n).data.toList = (digB n).data.toList := esp_plain _ fun c hc => by
 have h := dec_digit n c (by simpa [digB] using hc)
 exact ⟨fun e => by rw [e] at h; simp at h, fun e => by rw [e] at h; simp at h⟩
theorem led_dig {b : Bool} {i : Int} {s : ByteArray} {l : List V} {m : List Mem} {n : Nat} (h : n < l.length) (hn : l.length < 9223372036854775808) : ledF (.mk 4 b i s l m) (digB n) = (n, 0) := by
 rw [led4, idxF_some hn h (by simp [digB])]
 rfl
theorem out_ins {α : Type} {l : List α} {j : Nat} (h : j ≤ l.length) (x : α) : outL (insL l j x) j = l := by
 rw [outL, insL]
 have h1 : (l.take j).length = j := by rw [List.length_take]; omega
 rw [List.take_append_of_le_length (by omega), List.take_of_length_le (by omega)]
 have h2 : (l.take j ++ ([x] ++ l.drop j)).drop (j + 1) = l.drop j := by
  rw [List.drop_append, h1, List.drop_of_length_le (by omega)]
  simp
 rw [h2, List.take_append_drop]
theorem ins_at {α : Type} {l : List α} {j : Nat} (h : j ≤ l.length) (x : α) (hj : j < (insL l j x).length) : (insL l j x)[j] = x := by
 have h1 : (l.take j).length = j := by rw [List.length_take]; omega
 simp only [insL]
 rw [List.getElem_append_right (by omega)]
 simp [h1]
theorem ins_len {α : Type} (l : List α) (j : Nat) (x : α) : (insL l j x).length = l.length + 1 := by
 simp only [insL, List.length_append, List.length_take, List.length_drop, List.length_cons, List.length_nil]; omega
section
variable {v x : V} {key p : ByteArray} {ts : List ByteArray}
theorem mv_pop (h : Mv v x key) (hp : Place v p ts) {q : ByteArray} {b : Bool} {i : Int} {s : ByteArray} {l : List V} {m : List Mem} (ho : (rgW v ts).1 = .mk 4 b i s l m) (hll : l.length + 1 < 9223372036854775808) (hq : q.data.toList = p.data.toList ++ 47 :: (digB l.length).data.toList) :
 takF (updV v ts (.mk 4 b i s (insL l l.length x) m)) q = (v, x, 0) := by
 have hc := mv_ins h hp ho l.length
 have hp' := place_upd hp (.mk 4 b i s (insL l l.length x) m)
 have er : (rgW (updV v ts (.mk 4 b i s (insL l l.length x) m)) ts).1 = .mk 4 b i s (insL l l.length x) m := by rw [rg_upd _ ts v hp.r]
 have hlt : l.length < (insL l l.length x).length := by rw [ins_len]; omega
 have el : ledF (rgW (updV v ts (.mk 4 b i s (insL l l.length x) m)) ts).1 (digB l.length) = (l.length, 0) := by
  rw [er]; exact led_dig hlt (by rw [ins_len]; exact hll)
 have hq' : q.data.toList = p.data.toList ++ 47 :: esp (digB l.length).data.toList := by rw [dec_esp]; exact hq
 rw [tak_place hc hp' hq' (dec_valid _) (by rw [el]), el, er]
 have e1 : remV (.mk 4 b i s (insL l l.length x) m) l.length = (rgW v ts).1 := by
  rw [ho]
  show V.mk 4 b i s (outL (insL l l.length x) l.length) m = _
  rw [out_ins (Nat.le_refl _)]
 have e2 : kid (.mk 4 b i s (insL l l.length x) m) l.length = x := by rw [kid_list hlt]; exact ins_at (Nat.le_refl _) x hlt
 simp only
 rw [e1, e2, upd_upd _ _ ts v hp.r, upd_self ts v hp.r]
theorem mv_key (h : Mv v x key) (hp : Place v p ts) (hk : validD key.data.toList = true) {q : ByteArray} (hq : q.data.toList = p.data.toList ++ 47 :: esp key.data.toList) {b : Bool} {i : Int} {s : ByteArray} {l : List V} {m : List Mem} (ho : (rgW v ts).1 = .mk 5 b i s l m) :
 ∃ w, addPF v q x = (w, 0) ∧ getF w q = (x, 0) ∧ ∃ y, takF w q = (y, x, 0) ∧ (¬ keyIs key m[posF m key]? = true → y = v) := by
 have hgo := all_rg ts v h.g hp.r
 have hgo' := hgo
 rw [ho] at hgo'
 have hs : Srt m := by have := allG_srt hgo'; exact this
 by_cases hin : keyIs key m[posF m key]? = true
 ·-- the key is there
  have hlt : posF m key < m.length := by
   rcases Nat.lt_or_ge (posF m key) m.length with h | h
   ·exact h
   ·rw [List.getElem?_eq_none h] at hin; cases hin
  have hl : ledF (rgW v ts).1 key = (posF m key, 0) := by rw [ho, led5, if_pos hin]
  have hj : kidAt (rgW v ts).1 (posF m key) := by rw [ho]; exact .inr ⟨rfl, hlt⟩
  have ea : addF (rgW v ts).1 key x = (replV (rgW v ts).1 (posF m key) x, 0) := by
   rw [ho, addF, if_pos rfl, if_pos hin]
  have hc : chkE (updV v ts (replV (rgW v ts).1 (posF m key) x)) 40 = 0 := by
   have a1 := nd_repl hj x
   have a2 := by_repl hj x
   have a3 := dp_repl hj x
   have a4 := nd_pos (kid (rgW v ts).1 (posF m key))
   exact chk_upd (n := 0) (c := 0) h.g h.d hp.r (all_repl hj hgo h.gx) (by have := h.dx; omega) (by have := h.nx; have := h.n; omega) (by have := h.b; omega)
  have hp' := place_upd hp (replV (rgW v ts).1 (posF m key) x)
  have er : (rgW (updV v ts (replV (rgW v ts).1 (posF m key) x)) ts).1 = replV (rgW v ts).1 (posF m key) x := by rw [rg_upd _ ts v hp.r]
  have el : ledF (replV (rgW v ts).1 (posF m key) x) key = (posF m key, 0) := by rw [led_repl hj, hl]
  have hpl : Place (updV v ts (replV (rgW v ts).1 (posF m key) x)) q (ts ++ [key]) := ⟨snoc_p hp.p hq, snoc_u hp.u hk, by rw [rg_snoc key ts _ hp'.r, er, rg_one (by rw [el])]⟩
  refine ⟨updV v ts (replV (rgW v ts).1 (posF m key) x), ?_, ?_, ?_⟩
  ·rw [add_place h.cv h.cx hp hq hk, ea, if_pos rfl, nwe_ok hc]
  ·rw [get_place hc hpl, rg_snoc key ts _ hp'.r, er, rg_one (by rw [el]), el, kid_repl hj]
  ·refine ⟨updV (updV v ts (replV (rgW v ts).1 (posF m key) x)) ts (remV (replV (rgW v ts).1 (posF m key) x) (posF m key)), ?_, fun hn => absurd hin hn⟩
   rw [tak_place hc hp' hq hk (by rw [er, el]), er, el, kid_repl hj]
 ·-- it is new
  have hle := pos_le m key
  have ea : addF (rgW v ts).1 key x = (.mk 5 b i s l (insL m (posF m key) (key, x)), 0) := by
   rw [ho, addF, if_pos rfl, if_neg hin]
  have hgy := all_insM hgo' hk h.gx hin
  obtain ⟨a1, a2, a3, a4⟩ := ins_mems m (posF m key) key x
  have e1 : ndV (.mk 5 b i s l (insL m (posF m key) (key, x))) = ndV (rgW v ts).1 + 1 := by rw [ho, ndV, ndV, a1, h.nx]; omega
  have e2 : byV (.mk 5 b i s l (insL m (posF m key) (key, x))) = byV (rgW v ts).1 + byV x + key.size := by rw [ho, byV, byV, a2, a4]; omega
  have e3 : dpV (.mk 5 b i s l (insL m (posF m key) (key, x))) ≤ dpV (rgW v ts).1 + 1 := by rw [ho, dpV, dpV, a3, h.dx]; omega
  have hc : chkE (updV v ts (.mk 5 b i s l (insL m (posF m key) (key, x)))) 40 = 0 :=
   chk_upd (n := 0) (c := 0) h.g h.d hp.r hgy e3 (by have := h.n; omega) (by have := h.b; omega)
  have hp' := place_upd hp (.mk 5 b i s l (insL m (posF m key) (key, x)))
  have er : (rgW (updV v ts (.mk 5 b i s l (insL m (posF m key) (key, x)))) ts).1 = .mk 5 b i s l (insL m (posF m key) (key, x)) := by rw [rg_upd _ ts v hp.r]
  have hlt : posF m key < (insL m (posF m key) (key, x)).length := by rw [ins_len]; omega
  have hpos : posF (insL m (posF m key) (key, x)) key = posF m key := by
   have hs' := srt_ins (x := x) hs hin
   have hat := ins_at hle (key, x) hlt
   have q1 : ltB ((insL m (posF m key) (key, x))[posF m key]).1 key = false := by
    rw [hat]
    cases hb : ltB key key with
    | false => rfl
    | true =>
     have := (ltB_cmp key key).1 hb
     have h0 := (cmpS_zero key key).2 rfl
     rw [h0] at this
     cases this
   rw [pos_less hs' hlt] at q1
   have q2 : ¬ posF m key < posF (insL m (posF m key) (key, x)) key := of_decide_eq_false q1
   have q3 : posF m key ≤ posF (insL m (posF m key) (key, x)) key := by
    rcases Nat.eq_zero_or_pos (posF m key) with h0 | h0
    ·omega
    ·have hlt2 : posF m key - 1 < (insL m (posF m key) (key, x)).length := by omega
     have hpair := (List.pairwise_iff_getElem.1 hs') (posF m key - 1) (posF m key) hlt2 hlt (by omega)
     rw [hat, pos_less hs' hlt2] at hpair
     have q4 : posF m key - 1 < posF (insL m (posF m key) (key, x)) key := of_decide_eq_true hpair
     exact Nat.le_of_pred_lt q4
   omega
  have hin2 : keyIs key (insL m (posF m key) (key, x))[posF (insL m (posF m key) (key, x)) key]? = true := by
   rw [hpos, List.getElem?_eq_getElem hlt, ins_at hle (key, x) hlt]
   simp [keyIs]
  have el : ledF (.mk 5 b i s l (insL m (posF m key) (key, x))) key = (posF m key, 0) := by rw [led5, if_pos hin2, hpos]
  have ek : kid (.mk 5 b i s l (insL m (posF m key) (key, x))) (posF m key) = x := by rw [kid_map hlt, ins_at hle (key, x) hlt]
  have hpl : Place (updV v ts (.mk 5 b i s l (insL m (posF m key) (key, x)))) q (ts ++ [key]) := ⟨snoc_p hp.p hq, snoc_u hp.u hk, by rw [rg_snoc key ts _ hp'.r, er, rg_one (by rw [el])]⟩
  refine ⟨updV v ts (.mk 5 b i s l (insL m (posF m key) (key, x))), ?_, ?_, v, ?_, fun _ => rfl⟩
  ·rw [add_place h.cv h.cx hp hq hk, ea, if_pos rfl, nwe_ok hc]
  ·rw [get_place hc hpl, rg_snoc key ts _ hp'.r, er, rg_one (by rw [el]), el, ek]
  ·rw [tak_place hc hp' hq hk (by rw [er, el]), er, el, ek]
   have e5 : remV (.mk 5 b i s l (insL m (posF m key) (key, x))) (posF m key) = (rgW v ts).1 := by
    rw [ho]
    show V.mk 5 b i s l (outL (insL m (posF m key) (key, x)) (posF m key)) = _
    rw [out_ins hle]
   simp only
   rw [e5, upd_upd _ _ ts v hp.r, upd_self ts v hp.r]
theorem mv_no (h : Mv v x key) (hp : Place v p ts) (hk : validD key.data.toList = true) {q : ByteArray} (hq : q.data.toList = p.data.toList ++ 47 :: esp key.data.toList) (h4 : ¬ kindOf (rgW v ts).1 = 4) (h5 : ¬ kindOf (rgW v ts).1 = 5) : addPF v q x = (nullV, 41) := by
 have e : (addF (rgW v ts).1 key x) = (nullV, 41) := by
  cases ho : (rgW v ts).1 with
  | mk k b i s l m =>
   rw [ho] at h4 h5
   have h4' : ¬ k = 4 := h4
   have h5' : ¬ k = 5 := h5
   rw [addF, if_neg h5', if_neg h4']
 rw [add_place h.cv h.cx hp hq hk, e, if_neg (by decide)]
theorem rg_pre (t : ByteArray) : ∀ (us : List ByteArray) (v : V), (rgW v (us ++ [t])).2 = 0 → (rgW v us).2 = 0
 | [], v, _ => rfl
 | u :: us, v, h => by
  have q := rg_cons (t := u) (ts := us ++ [t]) h
  rw [rgW, if_pos q.1]
  exact rg_pre t us _ q.2.1
theorem mv_take (h : Mv v x key) (hp : Place v p ts) (hne : ts ≠ []) : ∃ w, takF v p = (w, (rgW v ts).1, 0) ∧ ndV w + ndV (rgW v ts).1 = ndV v ∧ chkE w 40 = 0 := by
 obtain ⟨us, t, rfl⟩ : ∃ us t, ts = us ++ [t] := ⟨ts.dropLast, ts.getLast hne, (List.dropLast_concat_getLast hne).symm⟩
 have hru : (rgW v us).2 = 0 := rg_pre t us v hp.r
 have hu : (dat us).all validD = true ∧ validD t.data.toList = true := by
  have e : dat (us ++ [t]) = dat us ++ [t.data.toList] := by simp [dat]
  have h := hp.u
  rw [e, List.all_append, Bool.and_eq_true] at h
  exact ⟨h.1, by simpa using h.2⟩
 have hpp : Place v ⟨(prT (dat us)).toArray⟩ us := ⟨by simp, hu.1, hru⟩
 have hq : p.data.toList = (⟨(prT (dat us)).toArray⟩ : ByteArray).data.toList ++ 47 :: esp t.data.toList := by
  have e : dat (us ++ [t]) = dat us ++ [t.data.toList] := by simp [dat]
  rw [hp.p, e, prT_snoc]
  simp
 have hr := hp.r
 rw [rg_snoc t us v hru] at hr
 have hl : (ledF (rgW v us).1 t).2 = 0 := by
  rw [rgW] at hr
  by_cases h0 : (ledF (rgW v us).1 t).2 = 0
  ·exact h0
  ·rw [if_neg h0] at hr; exact absurd hr h0
 have hj := led_kid hl
 have e1 : (rgW v (us ++ [t])).1 = kid (rgW v us).1 (ledF (rgW v us).1 t).1 := by rw [rg_snoc t us v hru, rg_one hl]
 have hc := rem_cnt hj
 have a1 := nd_upd (remV (rgW v us).1 (ledF (rgW v us).1 t).1) us v hru
 have a2 := by_upd (remV (rgW v us).1 (ledF (rgW v us).1 t).1) us v hru
 have a3 := dp_upd (remV (rgW v us).1 (ledF (rgW v us).1 t).1) us v hru
 have a4 := dp_rg us v hru
 have hgo := all_rg us v h.g hru
 have hrem : chkE (remV (rgW v us).1 (ledF (rgW v us).1 t).1) 40 = 0 := sub_chk (sub_rem hj) (h.co hpp)
 refine ⟨updV v us (remV (rgW v us).1 (ledF (rgW v us).1 t).1), ?_, ?_, ?_⟩
 ·rw [tak_place h.cv hpp hq hu.2 hl, e1]
 ·rw [e1]; omega
 ·exact chk40_of (all_upd ((chk_iff _ 40 (Nat.le_refl _)).1 hrem).1 us v h.g hru) (by have := h.d; omega) (by have := h.n; omega) (by have := h.b; omega)
end
theorem sizN_of {v : V} (h : chkE v 40 = 0) : sizN v = (ndV v : Int) := by
 rw [chkE40] at h
 have c := (cntV 40 v 0 (0, 0, 0) h).1
 rw [sizN, okV, if_pos (by simp [h]), c]
 simp
theorem rg_wt (ts : List ByteArray) (v : V) : (rgW v ts).1.wt ≤ v.wt := rgW_wt ts v
theorem wt_chk {v : V} (h : chkE v 40 = 0) : v.wt ≤ 1114112 := wt_of_chk (by rw [← chkE40]; exact h)
theorem Below.trans_block {A B : Nat} {w0 w1 w2 : World} (h : Below B w1 w2) (b : Below A w0 w1) (y : Nat) (hy : y < A) (hB : y < B) : w2.heap[y]? = w0.heap[y]? := (h.block y hB).trans (b.block y hy)
set_option maxHeartbeats 8000000 in
set_option maxRecDepth 100000 in
theorem taken_at (v x : V) (key p : ByteArray) (ts : List ByteArray) (S : Nat → Prop) (cs ds : List Value) (w : World) (tg : Tg w) (hm : Mv v x key) (hp : Place v p ts) (hps : p.size ≤ 3900000) (hv : v.lies false w S cs) (hx : (rgW v ts).1.lies false w S ds) (hS : ∀ b, S b → b < w.heap.size) (hwt : v.wt ≤ 2147483648) :
 Calls Tryz.prog 27 #[.agg cs.toArray, .string p, .agg ds.toArray] w (BPost true w) := by
 obtain ⟨k, b, i, s, al, nl, cl, am, nm, cm, rfl⟩ := V.ten hv
 obtain ⟨ok, ob, oi, os, oal, onl, ocl, oam, onm, ocm, rfl⟩ := V.ten hx
 have B0 : Below w.heap.size w ((w.alloc (.cells #[.int .i64 k, .bool b, .int .i64 i, .string s, .slice al nl cl, .slice am nm cm] 25)).alloc (.cells #[.int .i64 ok, .bool ob, .int .i64 oi, .string os, .slice oal onl ocl, .slice oam onm ocm] 25)) := two_below _ _ _
 have hz0 : ((w.alloc (.cells #[.int .i64 k, .bool b, .int .i64 i, .string s, .slice al nl cl, .slice am nm cm] 25)).alloc (.cells #[.int .i64 ok, .bool ob, .int .i64 oi, .string os, .slice oal onl ocl, .slice oam onm ocm] 25)).heap.size = w.heap.size + 2 := by simp only [alloc_size]
 have h0 := alloc2_keep1 w (.cells #[.int .i64 k, .bool b, .int .i64 i, .string s, .slice al nl cl, .slice am nm cm] 25) (.cells #[.int .i64 ok, .bool ob, .int .i64 oi, .string os, .slice oal onl ocl, .slice oam onm ocm] 25)
 have h1 := alloc2_new w (.cells #[.int .i64 k, .bool b, .int .i64 i, .string s, .slice al nl cl, .slice am nm cm] 25) (.cells #[.int .i64 ok, .bool ob, .int .i64 oi, .string os, .slice oal onl ocl, .slice oam onm ocm] 25)
 have HL : Hid (∀ W, Below w.heap.size w W → v.lies false W S [.int .i64 k, .bool b, .int .i64 i, .string s, .slice al nl cl, .slice am nm cm] ∧ (rgW v ts).1.lies false W S [.int .i64 ok, .bool ob, .int .i64 oi, .string os, .slice oal onl ocl, .slice oam onm ocm] ∧ (∀ b, S b → b < W.heap.size) ∧ Tg W) := fun W hb =>
  ⟨V.lies_keep (fun h => h) (fun y hy => hb.block y (hS y hy)) (fun _ h => h) _ hv, V.lies_keep (fun h => h) (fun y hy => hb.block y (hS y hy)) (fun _ h => h) _ hx, fun y hy => Nat.lt_of_lt_of_le (hS y hy) hb.size, tg.below hb tg.z⟩
 have HK : Hid (∀ W, Below w.heap.size w W → Calls Tryz.prog 12 #[.agg #[.int .i64 k, .bool b, .int .i64 i, .string s, .slice al nl cl, .slice am nm cm], .string p] W (TkPost (takF v p) W)) := fun W hb => take_any v p S _ W (HL.out W hb).2.2.2 (HL.out W hb).1 (HL.out W hb).2.2.1 (by omega) hps
 obtain ⟨r0, r1, r2, r3, r4, r5⟩ := sixC h0
 go_enter Tryz.func27, Tryz.ntmps27
 go_wp2_with fail
 clear r0 r1 r2 r3 r4 r5
 generalize ((w.alloc (.cells #[.int .i64 k, .bool b, .int .i64 i, .string s, .slice al nl cl, .slice am nm cm] 25)).alloc (.cells #[.int .i64 ok, .bool ob, .int .i64 oi, .string os, .slice oal onl ocl, .slice oam onm ocm] 25)) = w0 at *
 refine (HK.out w0 B0).mono ?_
 rintro e w1 ⟨c1, d1, rfl, l1, l2, b1⟩
 have hz1 := b1.size
 have B1 := B0.trans (b1.mono (by omega))
 have k0 := (b1.block w.heap.size (by omega)).trans h0
 have k1 := (b1.block (w.heap.size + 1) (by omega)).trans h1
 clear h0 h1 HK
 by_cases hts : ts = []
 ·have hp0 : p = ⟨#[]⟩ := by
   have e := hp.p
   rw [hts] at e
   have e' : p.data.toList = [] := e
   rcases p with ⟨⟨l⟩⟩
   have : l = [] := e'
   rw [this]
  have ht : takF v p = (nullV, nullV, 41) := by
   obtain ⟨q1, q2⟩ := toks_pr hp.p hp.u
   rw [takF, if_pos (rd_ok hm.cv q1), q2, hts]
   rfl
  rw [ht] at l1 l2 ⊢
  subst hp0
  obtain ⟨nk, nb, ni, ns, nal, nnl, ncl, nam, nnm, ncm, rfl⟩ := V.ten l1
  obtain ⟨qk, qb, qi, qs, qal, qnl, qcl, qam, qnm, qcm, rfl⟩ := V.ten l2
  have bb := two_below w1 (.cells #[.int .i64 nk, .bool nb, .int .i64 ni, .string ns, .slice nal nnl ncl, .slice nam nnm ncm] 25) (.cells #[.int .i64 qk, .bool qb, .int .i64 qi, .string qs, .slice qal qnl qcl, .slice qam qnm qcm] 25)
  clear l1 l2 HL
  go_wp2_with fail
  go_ret
  exact ⟨rfl, B1.trans (bb.mono (by omega))⟩
 ·obtain ⟨wv, ht, hn, hc⟩ := mv_take hm hp hts
  rw [ht] at l1 l2 ⊢
  have hpe : (p.toList == []) = false := by
   rw [beq_eq_false_iff_ne, ByteArray.toList_eq, hp.p]
   intro e
   exact hts (by have := (prT_nil _).1 e; simpa [dat] using this)
  obtain ⟨nk, nb, ni, ns, nal, nnl, ncl, nam, nnm, ncm, rfl⟩ := V.ten l1
  obtain ⟨qk, qb, qi, qs, qal, qnl, qcl, qam, qnm, qcm, rfl⟩ := V.ten l2
  have bb := two_below w1 (.cells #[.int .i64 nk, .bool nb, .int .i64 ni, .string ns, .slice nal nnl ncl, .slice nam nnm ncm] 25) (.cells #[.int .i64 qk, .bool qb, .int .i64 qi, .string qs, .slice qal qnl qcl, .slice qam qnm qcm] 25)
  have hzb : ((w1.alloc (.cells #[.int .i64 nk, .bool nb, .int .i64 ni, .string ns, .slice nal nnl ncl, .slice nam nnm ncm] 25)).alloc (.cells #[.int .i64 qk, .bool qb, .int .i64 qi, .string qs, .slice qal qnl qcl, .slice qam qnm qcm] 25)).heap.size = w1.heap.size + 2 := by simp only [alloc_size]
  have B2 := B1.trans (bb.mono (by omega))
  have e0 := (bb.block w.heap.size (by omega)).trans k0
  have e1 := (bb.block (w.heap.size + 1) (by omega)).trans k1
  have e2 := alloc2_keep1 w1 (.cells #[.int .i64 nk, .bool nb, .int .i64 ni, .string ns, .slice nal nnl ncl, .slice nam nnm ncm] 25) (.cells #[.int .i64 qk, .bool qb, .int .i64 qi, .string qs, .slice qal qnl qcl, .slice qam qnm qcm] 25)
  have l1' : wv.lies false ((w1.alloc (.cells #[.int .i64 nk, .bool nb, .int .i64 ni, .string ns, .slice nal nnl ncl, .slice nam nnm ncm] 25)).alloc (.cells #[.int .i64 qk, .bool qb, .int .i64 qi, .string qs, .slice qal qnl qcl, .slice qam qnm qcm] 25)) (New w0 w1) [.int .i64 nk, .bool nb, .int .i64 ni, .string ns, .slice nal nnl ncl, .slice nam nnm ncm] := V.lies_keep (fun h => h) (fun y hy => bb.block y hy.2) (fun _ h => h) _ l1
  have l2' : (rgW v ts).1.lies false ((w1.alloc (.cells #[.int .i64 nk, .bool nb, .int .i64 ni, .string ns, .slice nal nnl ncl, .slice nam nnm ncm] 25)).alloc (.cells #[.int .i64 qk, .bool qb, .int .i64 qi, .string qs, .slice qal qnl qcl, .slice qam qnm qcm] 25)) (New w0 w1) [.int .i64 qk, .bool qb, .int .i64 qi, .string qs, .slice qal qnl qcl, .slice qam qnm qcm] := V.lies_keep (fun h => h) (fun y hy => bb.block y hy.2) (fun _ h => h) _ l2
  have CS := same_any (rgW v ts).1 false false (rgW v ts).1 (New w0 w1) S _ _ ((w1.alloc (.cells #[.int .i64 nk, .bool nb, .int .i64 ni, .string ns, .slice nal nnl ncl, .slice nam nnm ncm] 25)).alloc (.cells #[.int .i64 qk, .bool qb, .int .i64 qi, .string qs, .slice qal qnl qcl, .slice qam qnm qcm] 25)) l2' (HL.out _ B2).2.1 (fun y hy => by have := hy.2; omega) (HL.out _ B2).2.2.1
  rw [V.eqB_refl] at CS
  have CS := hmk CS
  obtain ⟨a0, a1, a2, a3, a4, a5⟩ := sixC e1
  clear l1 l2 k0 k1 ht
  go_wp2_with fail
  generalize ((w1.alloc (.cells #[.int .i64 nk, .bool nb, .int .i64 ni, .string ns, .slice nal nnl ncl, .slice nam nnm ncm] 25)).alloc (.cells #[.int .i64 qk, .bool qb, .int .i64 qi, .string qs, .slice qal qnl qcl, .slice qam qnm qcm] 25)) = w2 at *
  refine CS.out.mono ?_
  rintro e w3 ⟨rfl, b3⟩
  have hz3 := b3.size
  have B3 := B2.trans (b3.mono (by omega))
  obtain ⟨f0, f1, f2, f3, f4, f5⟩ := sixC ((b3.block w.heap.size (by omega)).trans e0)
  obtain ⟨g0, g1, g2, g3, g4, g5⟩ := sixC ((b3.block (w.heap.size + 1) (by omega)).trans e1)
  obtain ⟨h0, h1, h2, h3, h4, h5⟩ := sixC ((b3.block w1.heap.size (by omega)).trans e2)
  have n1 := sizN_of hc
  have n2 := sizN_of hm.cv
  have n3 := sizN_of (hm.co hp)
  have hwo := rg_wt ts v
  have hww : wv.wt ≤ 1099511627776 := by have := wt_chk hc; omega
  have C1 : Hid (∀ x : Sub w3.heap.size w3, Calls Tryz.prog 21 #[.agg #[.int .i64 nk, .bool nb, .int .i64 ni, .string ns, .slice nal nnl ncl, .slice nam nnm ncm]] x.w fun e w'' => e = .returned (.int .i64 (ndV wv : Int)) ∧ ∃ y : Sub w3.heap.size w3, w'' = y.w) := sub_call fun W hb => by
   have := nodes_any false wv (New w0 w1) _ W ⟨(HL.out W (B3.trans (hb.mono B3.size))).2.2.2.t.u, by have := (HL.out W (B3.trans (hb.mono B3.size))).2.2.2.z; omega⟩ (V.lies_keep (fun h => h) (fun y hy => (Below.trans_block hb b3 y (by have := hy.2; omega) (by have := hy.2; omega))) (fun _ h => h) _ l1') (fun y hy => by have := hy.2; have := hb.size; omega) hww
   rw [n1] at this
   exact this.mono fun e W' ⟨he, h2⟩ => ⟨he, hb.trans (h2.mono hb.size)⟩
  have C2 : Hid (∀ x : Sub w3.heap.size w3, Calls Tryz.prog 21 #[.agg #[.int .i64 k, .bool b, .int .i64 i, .string s, .slice al nl cl, .slice am nm cm]] x.w fun e w'' => e = .returned (.int .i64 (ndV v : Int)) ∧ ∃ y : Sub w3.heap.size w3, w'' = y.w) := sub_call fun W hb => by
   have q := HL.out W (B3.trans (hb.mono B3.size))
   have := nodes_any false v S _ W ⟨q.2.2.2.t.u, by have := q.2.2.2.z; omega⟩ q.1 q.2.2.1 (by omega)
   rw [n2] at this
   exact this.mono fun e W' ⟨he, h2⟩ => ⟨he, hb.trans (h2.mono hb.size)⟩
  have C3 : Hid (∀ x : Sub w3.heap.size w3, Calls Tryz.prog 21 #[.agg #[.int .i64 ok, .bool ob, .int .i64 oi, .string os, .slice oal onl ocl, .slice oam onm ocm]] x.w fun e w'' => e = .returned (.int .i64 (ndV (rgW v ts).1 : Int)) ∧ ∃ y : Sub w3.heap.size w3, w'' = y.w) := sub_call fun W hb => by
   have q := HL.out W (B3.trans (hb.mono B3.size))
   have := nodes_any false (rgW v ts).1 S _ W ⟨q.2.2.2.t.u, by have := q.2.2.2.z; omega⟩ q.2.1 q.2.2.1 (by omega)
   rw [n3] at this
   exact this.mono fun e W' ⟨he, h2⟩ => ⟨he, hb.trans (h2.mono hb.size)⟩
  have u0 : ∀ x : Sub w3.heap.size w3, _ := sub_cell f0 (by omega)
  have u1 : ∀ x : Sub w3.heap.size w3, _ := sub_cell f1 (by omega)
  have u2 : ∀ x : Sub w3.heap.size w3, _ := sub_cell f2 (by omega)
  have u3 : ∀ x : Sub w3.heap.size w3, _ := sub_cell f3 (by omega)
  have u4 : ∀ x : Sub w3.heap.size w3, _ := sub_cell f4 (by omega)
  have u5 : ∀ x : Sub w3.heap.size w3, _ := sub_cell f5 (by omega)
  have v0 : ∀ x : Sub w3.heap.size w3, _ := sub_cell g0 (by omega)
  have v1 : ∀ x : Sub w3.heap.size w3, _ := sub_cell g1 (by omega)
  have v2 : ∀ x : Sub w3.heap.size w3, _ := sub_cell g2 (by omega)
  have v3 : ∀ x : Sub w3.heap.size w3, _ := sub_cell g3 (by omega)
  have v4 : ∀ x : Sub w3.heap.size w3, _ := sub_cell g4 (by omega)
  have v5 : ∀ x : Sub w3.heap.size w3, _ := sub_cell g5 (by omega)
  have x0 : ∀ x : Sub w3.heap.size w3, _ := sub_cell h0 (by omega)
  have x1 : ∀ x : Sub w3.heap.size w3, _ := sub_cell h1 (by omega)
  have x2 : ∀ x : Sub w3.heap.size w3, _ := sub_cell h2 (by omega)
  have x3 : ∀ x : Sub w3.heap.size w3, _ := sub_cell h3 (by omega)
  have x4 : ∀ x : Sub w3.heap.size w3, _ := sub_cell h4 (by omega)
  have x5 : ∀ x : Sub w3.heap.size w3, _ := sub_cell h5 (by omega)
  have hnv := hm.n
  have y8 : (-9223372036854775808 : Int) ≤ (ndV v : Int) - (ndV (rgW v ts).1 : Int) ∧ (ndV v : Int) - (ndV (rgW v ts).1 : Int) ≤ 9223372036854775807 := by omega
  have y9 : (ndV wv : Int) = (ndV v : Int) - (ndV (rgW v ts).1 : Int) := by omega
  generalize ndV wv = NW at *
  generalize ndV v = NV at *
  generalize ndV (rgW v ts).1 = NO at *
  clear CS a0 a1 a2 a3 a4 a5 e0 e1 e2 n1 n2 n3
  go_wp2_with fail
  refine wp_region_sub w3.heap.size (by kernel_rfl) (by kernel_rfl) ?_
  go_big_quiet_step (fail)
  go_big_quiet_step (exact C1.out _)
  go_big_quiet_step (fail)
  go_big_quiet_step (exact C2.out _)
  go_big_quiet_step (fail)
  go_big_quiet_step (exact C3.out _)
  repeat (go_big_quiet_step (fail))
  refine wpQuiet_nil ?_
  rintro _ ⟨⟨wq, bq⟩, rfl⟩
  go_wp2_with fail
  go_ret
  exact ⟨by first | rfl | simp [y9], B3.trans (bq.mono (by omega))⟩
end Go.Proofs.YtgnofbigggmilaaGreatDoor
