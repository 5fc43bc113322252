import Derived.Test.YthlhkhcbkgbhfaaGreatDoorFstJ
/- pathset.walk's closure: the paths that are taken, one by one. -/
set_option linter.unusedSimpArgs false
set_option linter.unusedVariables false
namespace Go.Proofs.YthlhkhcbkgbhfaaGreatDoor
open Go Go.RowKit Go.Lib Go.Shelf
attribute [local go_sem] Oper.semAt_some
set_option maxHeartbeats 16000000 in
set_option maxRecDepth 100000 in
theorem walkM_seq {w0 : World} {S T : Nat → Prop} {zs : List (PC w0 S)} (xa xb : List (PC w0 S)) (hz0 : wkL PC.cmp tM xa xb = zs) (xs : List {x : PC w0 S // x ∈ zs}) (hzs : xs.map (fun x => x.1) = zs) (n n0 vx A1 A2 A3 ca ba oa cb bb ob : Nat) (aa ab : Option Addr) (w : World)
    (h1 : w.cell? ⟨A1, 0, none⟩ = some (.slice aa xa.length ca)) (h2 : w.cell? ⟨A2, 0, none⟩ = some (.slice ab xb.length cb)) (h3 : w.cell? ⟨A3, 0, none⟩ = some (.func (.func 33) #[] #[])) (hA1 : A1 < n0) (hA2 : A2 < n0) (hA3 : A3 < n0) (hv1 : A1 ≠ vx) (hv2 : A2 ≠ vx) (hv3 : A3 ≠ vx) (hn0 : n0 ≤ w.heap.size)
    (ha : RdR w T aa ca ba oa xa) (hb : RdR w T ab cb bb ob xb) (hT : ∀ x, T x → x < n0 ∧ x ≠ vx) (hST : ∀ x, S x → T x) (hw : ∀ x, S x → w.heap[x]? = w0.heap[x]?) (hla : xa.length ≤ 8589934592) (hlb : xb.length ≤ 8589934592) :
    SeqStopsK Fence.wide n Tryz.prog 56 #[.pointer (some ⟨A1, 0, none⟩), .pointer (some ⟨A2, 0, none⟩), .pointer (some ⟨A3, 0, none⟩)] (fun x : {x : PC w0 S // x ∈ zs} => #[x.1.enc]) (Kx n0 vx) (fun ys => ys.map (fun x => x.1) = zs) (fun _ => True) xs.length w := by
  intro l J Jx W hW hJ hJx hY h0
  have HZ0 : Hid (xs.map (fun x => x.1) = wkL PC.cmp tM (xa.drop 0) (xb.drop 0)) := by show _ = _; rw [List.drop_zero, List.drop_zero, hz0]; exact hzs
  refine callsIn_of_wp Tryz.func56 rfl trivial ?_ rfl
  simp only [Tryz.ntmps56, List.size_toArray, List.length_cons, List.length_nil, Nat.reduceAdd, Nat.reduceSub, Array.replicate_succ, Array.replicate_zero, List.push_toArray, List.append_toArray, List.nil_append, List.cons_append]
  gi_wp2
  gi_loopw [5, 6] (fun e5 e6 wr => ∃ (i k : Nat) (pre rest : List {x : PC w0 S // x ∈ zs}), i ≤ xa.length ∧ k ≤ xb.length ∧ e5 = .int .i64 (i : Int) ∧ e6 = .int .i64 (k : Int) ∧ Hid (xs = pre ++ rest) ∧ Hid (rest.map (fun x => x.1) = wkL PC.cmp tM (xa.drop i) (xb.drop k)) ∧ Hid (Kx n0 vx w wr) ∧ J pre wr) (fun e5 e6 _ => (xa.length - (RowKit.intOf e5).toNat) + (xb.length - (RowKit.intOf e6).toNat))
  case atStart => exact ⟨0, 0, [], xs, by omega, by omega, rfl, rfl, rfl, HZ0, kx_of (hW.mono hn0), h0⟩
  case round =>
    clear h0 hW
    obtain ⟨i, k, pre, rest, hi, hk, rfl, rfl, HX, HR, HB, hj⟩ := hrel
    have bw := HB.out
    clear HB
    have c1 := (bw.cell (p := ⟨A1, 0, none⟩) hA1 hv1).trans h1
    have c2 := (bw.cell (p := ⟨A2, 0, none⟩) hA2 hv2).trans h2
    have hzr : n0 ≤ wr.heap.size := Nat.le_trans hn0 bw.size
    by_cases hend : i = xa.length ∧ k = xb.length
    · obtain ⟨rfl, rfl⟩ := hend
      have y1 : ¬ (xa.length : Int) < xa.length := by omega
      have y2 : ¬ (xb.length : Int) < xb.length := by omega
      have hr0 : rest = [] := by
        have := HR.out
        rw [List.drop_length, List.drop_length, wkL] at this
        exact List.map_eq_nil_iff.1 this
      have hjx : J xs wr := by rw [HX.out, hr0, List.append_nil]; exact hj
      clear hr0 HR
      gi_wp2
      go_end0
      exact ⟨⟨_, rfl⟩, .inl (by first | exact hjx | exact ⟨xs, hzs, hjx⟩)⟩
    have hor : i < xa.length ∨ k < xb.length := by omega
    have RA : Hid (RdR wr T aa ca ba oa xa) := ⟨ha.hd, fun j hj => (bw.cell (p := ⟨ba, oa + j, none⟩) (hT _ (ha.in_ (by omega))).1 (hT _ (ha.in_ (by omega))).2).trans (ha.cell j hj), ha.in_⟩
    have RB : Hid (RdR wr T ab cb bb ob xb) := ⟨hb.hd, fun j hj => (bw.cell (p := ⟨bb, ob + j, none⟩) (hT _ (hb.in_ (by omega))).1 (hT _ (hb.in_ (by omega))).2).trans (hb.cell j hj), hb.in_⟩
    have HSr : Hid (∀ x, S x → x < wr.heap.size ∧ wr.heap[x]? = w0.heap[x]?) := fun x hx => ⟨Nat.lt_of_lt_of_le (hT _ (hST x hx)).1 hzr, (bw.block x (hT _ (hST x hx)).1 (hT _ (hST x hx)).2).trans (hw x hx)⟩
    have p1 : ∀ z : Sub wr.heap.size wr, _ := sub_cell c1 (show A1 < _ by omega)
    have p2 : ∀ z : Sub wr.heap.size wr, _ := sub_cell c2 (show A2 < _ by omega)
    have hcla : xa.length ≤ ca := ha.hd.le
    have hclb : xb.length ≤ cb := hb.hd.le
    have hcma : ca ≤ 9223372036854775807 := Nat.le_trans ha.hd.max (by decide)
    have hcmb : cb ≤ 9223372036854775807 := Nat.le_trans hb.hd.max (by decide)
    have yi : (i : Int) ≤ xa.length := by omega
    have yk : (k : Int) ≤ xb.length := by omega
    have yci : (i : Int) ≤ ca := by omega
    have yck : (k : Int) ≤ cb := by omega
    have y1 : (decide ((i : Int) < xa.length) || decide ((k : Int) < xb.length)) = true := by simp only [Bool.or_eq_true, decide_eq_true_eq]; omega
    by_cases hca : ca = i
    · have hxe : xa.drop i = [] := List.drop_eq_nil_of_le (by omega)
      have hki : k < xb.length := by omega
      have hcb : ¬ cb = k := by omega
      have hz : 0 < fstC PC.cmp (xa.drop i) (xb.drop k) := by rw [hxe, List.drop_eq_getElem_cons hki, fstC]; omega
      have x1 : ¬ (i : Int) < xa.length := by omega
      have x2 : (k : Int) < xb.length := by omega
      obtain ⟨y, tb, exb⟩ := fst_gt hz
      have hk2 : k < xb.length := by have := congrArg List.length exb; rw [List.length_drop, List.length_cons] at this; omega
      have hyk : xb[k] = y := by rw [List.drop_eq_getElem_cons hk2] at exb; exact (List.cons.inj exb).1
      have htb : tb = xb.drop (k + 1) := by rw [List.drop_eq_getElem_cons hk2] at exb; exact (List.cons.inj exb).2.symm
      have HN : Hid (rest.map (fun x => x.1) = oneIf (tM false true) y ++ wkL PC.cmp tM (xa.drop i) (xb.drop (k + 1))) := by
        show _ = _
        rw [HR.out, exb, wk_gt (by rw [← exb]; exact hz), htb]
      clear exb htb HR
      have CI : Hid (∀ z : Sub wr.heap.size wr, Calls Tryz.prog 57 #[.slice aa (xa.length - i) 0, .slice (Option.map (fun x => x.add k) ab) (xb.length - k) (cb - k)] z.w fun e w'' => e = .returned (.int .i64 (fstC PC.cmp (xa.drop i) (xb.drop k))) ∧ ∃ y : Sub wr.heap.size wr, w'' = y.w) := sub_call fun w' hbb => by
        have ra : RdR w' T aa ca ba oa xa := RA.out.below hbb
        have rb : RdR w' T ab cb bb ob xb := RB.out.below hbb
        have := fstp_any (xa.drop i) (xb.drop k) aa 0 _ _ (Option.map (fun x => x.add k) ab) (cb - k) _ _ w' (ra.done (by omega)) (rb.drop k hk (by omega)) (fun x hx => (hbb.block x (HSr.out x hx).1).trans (HSr.out x hx).2) (fun x hx => Nat.lt_of_lt_of_le (HSr.out x hx).1 hbb.size)
        rw [List.length_drop, List.length_drop] at this
        exact this.mono fun e w'' h => ⟨h.1, hbb.trans (h.2.mono hbb.size)⟩
      generalize fstC PC.cmp (xa.drop i) (xb.drop k) = Z at *
      gi_wp2
      refine wpIn_wide.2 ?_
      refine wp_region_sub wr.heap.size (by kernel_rfl) (by kernel_rfl) ?_
      repeat (go_big_quiet_step (exact CI.out _))
      refine wpQuiet_nil ?_
      rintro wq ⟨⟨wq', bq⟩, hq⟩
      have hq' : wq = wq' := hq
      subst hq'
      clear hq CI p1 p2 c1 c2
      have hjq : J pre wq := hJ _ _ _ none hj ⟨bq.os, bq.tape, bq.output, bq.size, fun q hq _ => bq.block q hq⟩ (fun r e => by cases e)
      have bkq : Kx n0 vx w wq := bw.trans (kx_of (bq.mono (Nat.le_trans hn0 bw.size)))
      have d1 := (bkq.cell (p := ⟨A1, 0, none⟩) hA1 hv1).trans h1
      have d2 := (bkq.cell (p := ⟨A2, 0, none⟩) hA2 hv2).trans h2
      have d3 := (bkq.cell (p := ⟨A3, 0, none⟩) hA3 hv3).trans h3
      clear hj
      obtain rfl : ab = some ⟨bb, ob, none⟩ := RB.out.hd.at_.resolve_left (by omega)
      have eb : wq.cell? ⟨bb, ob + k, none⟩ = some (.slice y.ao y.p.length y.cap) := ((RB.out.below bq).cell k hk2).trans (by rw [hyk]; rfl)
      have y7 : (k : Int) < xb.length := by omega
      have y8 : ¬ (Z ≤ 0) := by omega
      have y9 : (0 ≤ Z) := by omega
      have z8 : decide (Z ≤ 0) = false := decide_eq_false y8
      have z9 : decide (0 ≤ Z) = true := decide_eq_true y9
      gi_wp2
      refine ⟨trivial, fun h => (by cases h), (callsIn_wide).2 ((takeM_any false true wq).mono ?_)⟩
      rintro e wt ⟨rfl, rfl⟩
      have htk : tM false true = false := rfl
      rw [htk] at HN ⊢
      gi_wp2
      refine ⟨fun f h => (by cases h), ?_⟩
      gi_wp2
      go_roundw
      case rel => exact ⟨i, k + 1, pre, rest, by omega, by omega, rfl, by go_num, HX, HN, bkq, hjq⟩
      case measure => simp [RowKit.intOf]; omega
    by_cases hcb : cb = k
    · have hye : xb.drop k = [] := List.drop_eq_nil_of_le (by omega)
      have hz : fstC PC.cmp (xa.drop i) (xb.drop k) < 0 := by rw [hye, fstC.eq_1]; omega
      have x1 : (i : Int) < xa.length := by omega
      obtain ⟨x, ta, exa⟩ := fst_lt hz (by rw [List.length_drop, List.length_drop]; omega)
      have hi2 : i < xa.length := by have := congrArg List.length exa; rw [List.length_drop, List.length_cons] at this; omega
      have hxi : xa[i] = x := by rw [List.drop_eq_getElem_cons hi2] at exa; exact (List.cons.inj exa).1
      have hta : ta = xa.drop (i + 1) := by rw [List.drop_eq_getElem_cons hi2] at exa; exact (List.cons.inj exa).2.symm
      have HN : Hid (rest.map (fun x => x.1) = oneIf (tM true false) x ++ wkL PC.cmp tM (xa.drop (i + 1)) (xb.drop k)) := by
        show _ = _
        rw [HR.out, exa, wk_lt (by rw [← exa]; exact hz), hta]
      clear exa hta HR
      have CI : Hid (∀ z : Sub wr.heap.size wr, Calls Tryz.prog 57 #[.slice (Option.map (fun x => x.add i) aa) (xa.length - i) (ca - i), .slice ab (xb.length - k) 0] z.w fun e w'' => e = .returned (.int .i64 (fstC PC.cmp (xa.drop i) (xb.drop k))) ∧ ∃ y : Sub wr.heap.size wr, w'' = y.w) := sub_call fun w' hbb => by
        have ra : RdR w' T aa ca ba oa xa := RA.out.below hbb
        have rb : RdR w' T ab cb bb ob xb := RB.out.below hbb
        have := fstp_any (xa.drop i) (xb.drop k) (Option.map (fun x => x.add i) aa) (ca - i) _ _ ab 0 _ _ w' (ra.drop i hi (by omega)) (rb.done (by omega)) (fun x hx => (hbb.block x (HSr.out x hx).1).trans (HSr.out x hx).2) (fun x hx => Nat.lt_of_lt_of_le (HSr.out x hx).1 hbb.size)
        rw [List.length_drop, List.length_drop] at this
        exact this.mono fun e w'' h => ⟨h.1, hbb.trans (h.2.mono hbb.size)⟩
      generalize fstC PC.cmp (xa.drop i) (xb.drop k) = Z at *
      gi_wp2
      refine wpIn_wide.2 ?_
      refine wp_region_sub wr.heap.size (by kernel_rfl) (by kernel_rfl) ?_
      repeat (go_big_quiet_step (exact CI.out _))
      refine wpQuiet_nil ?_
      rintro wq ⟨⟨wq', bq⟩, hq⟩
      have hq' : wq = wq' := hq
      subst hq'
      clear hq CI p1 p2 c1 c2
      have hjq : J pre wq := hJ _ _ _ none hj ⟨bq.os, bq.tape, bq.output, bq.size, fun q hq _ => bq.block q hq⟩ (fun r e => by cases e)
      have bkq : Kx n0 vx w wq := bw.trans (kx_of (bq.mono (Nat.le_trans hn0 bw.size)))
      have d1 := (bkq.cell (p := ⟨A1, 0, none⟩) hA1 hv1).trans h1
      have d2 := (bkq.cell (p := ⟨A2, 0, none⟩) hA2 hv2).trans h2
      have d3 := (bkq.cell (p := ⟨A3, 0, none⟩) hA3 hv3).trans h3
      clear hj
      obtain rfl : aa = some ⟨ba, oa, none⟩ := RA.out.hd.at_.resolve_left (by omega)
      have ea : wq.cell? ⟨ba, oa + i, none⟩ = some (.slice x.ao x.p.length x.cap) := ((RA.out.below bq).cell i hi2).trans (by rw [hxi]; rfl)
      have y6 : (i : Int) < xa.length := by omega
      have y8 : (Z ≤ 0) := by omega
      have y9 : ¬ (0 ≤ Z) := by omega
      have z8 : decide (Z ≤ 0) = true := decide_eq_true y8
      have z9 : decide (0 ≤ Z) = false := decide_eq_false y9
      gi_wp2
      refine ⟨trivial, fun h => (by cases h), (callsIn_wide).2 ((takeM_any true false wq).mono ?_)⟩
      rintro e wt ⟨rfl, rfl⟩
      have htk : tM true false = false := rfl
      rw [htk] at HN ⊢
      gi_wp2
      refine ⟨fun f h => (by cases h), ?_⟩
      gi_wp2
      go_roundw
      case rel => exact ⟨i + 1, k, pre, rest, by omega, by omega, by go_num, rfl, HX, HN, bkq, hjq⟩
      case measure => simp [RowKit.intOf]; omega
    by_cases hx1 : i < xa.length
    rotate_left
    · have hxe : xa.drop i = [] := List.drop_eq_nil_of_le (by omega)
      have hki : k < xb.length := by omega
      have hz : 0 < fstC PC.cmp (xa.drop i) (xb.drop k) := by rw [hxe, List.drop_eq_getElem_cons hki, fstC]; omega
      have x1 : ¬ (i : Int) < xa.length := by omega
      have x2 : (k : Int) < xb.length := by omega
      obtain ⟨y, tb, exb⟩ := fst_gt hz
      have hk2 : k < xb.length := by have := congrArg List.length exb; rw [List.length_drop, List.length_cons] at this; omega
      have hyk : xb[k] = y := by rw [List.drop_eq_getElem_cons hk2] at exb; exact (List.cons.inj exb).1
      have htb : tb = xb.drop (k + 1) := by rw [List.drop_eq_getElem_cons hk2] at exb; exact (List.cons.inj exb).2.symm
      have HN : Hid (rest.map (fun x => x.1) = oneIf (tM false true) y ++ wkL PC.cmp tM (xa.drop i) (xb.drop (k + 1))) := by
        show _ = _
        rw [HR.out, exb, wk_gt (by rw [← exb]; exact hz), htb]
      clear exb htb HR
      have CI : Hid (∀ z : Sub wr.heap.size wr, Calls Tryz.prog 57 #[.slice (Option.map (fun x => x.add i) aa) (xa.length - i) (ca - i), .slice (Option.map (fun x => x.add k) ab) (xb.length - k) (cb - k)] z.w fun e w'' => e = .returned (.int .i64 (fstC PC.cmp (xa.drop i) (xb.drop k))) ∧ ∃ y : Sub wr.heap.size wr, w'' = y.w) := sub_call fun w' hbb => by
        have ra : RdR w' T aa ca ba oa xa := RA.out.below hbb
        have rb : RdR w' T ab cb bb ob xb := RB.out.below hbb
        have := fstp_any (xa.drop i) (xb.drop k) (Option.map (fun x => x.add i) aa) (ca - i) _ _ (Option.map (fun x => x.add k) ab) (cb - k) _ _ w' (ra.drop i hi (by omega)) (rb.drop k hk (by omega)) (fun x hx => (hbb.block x (HSr.out x hx).1).trans (HSr.out x hx).2) (fun x hx => Nat.lt_of_lt_of_le (HSr.out x hx).1 hbb.size)
        rw [List.length_drop, List.length_drop] at this
        exact this.mono fun e w'' h => ⟨h.1, hbb.trans (h.2.mono hbb.size)⟩
      generalize fstC PC.cmp (xa.drop i) (xb.drop k) = Z at *
      gi_wp2
      refine wpIn_wide.2 ?_
      refine wp_region_sub wr.heap.size (by kernel_rfl) (by kernel_rfl) ?_
      repeat (go_big_quiet_step (exact CI.out _))
      refine wpQuiet_nil ?_
      rintro wq ⟨⟨wq', bq⟩, hq⟩
      have hq' : wq = wq' := hq
      subst hq'
      clear hq CI p1 p2 c1 c2
      have hjq : J pre wq := hJ _ _ _ none hj ⟨bq.os, bq.tape, bq.output, bq.size, fun q hq _ => bq.block q hq⟩ (fun r e => by cases e)
      have bkq : Kx n0 vx w wq := bw.trans (kx_of (bq.mono (Nat.le_trans hn0 bw.size)))
      have d1 := (bkq.cell (p := ⟨A1, 0, none⟩) hA1 hv1).trans h1
      have d2 := (bkq.cell (p := ⟨A2, 0, none⟩) hA2 hv2).trans h2
      have d3 := (bkq.cell (p := ⟨A3, 0, none⟩) hA3 hv3).trans h3
      clear hj
      obtain rfl : ab = some ⟨bb, ob, none⟩ := RB.out.hd.at_.resolve_left (by omega)
      have eb : wq.cell? ⟨bb, ob + k, none⟩ = some (.slice y.ao y.p.length y.cap) := ((RB.out.below bq).cell k hk2).trans (by rw [hyk]; rfl)
      have y7 : (k : Int) < xb.length := by omega
      have y8 : ¬ (Z ≤ 0) := by omega
      have y9 : (0 ≤ Z) := by omega
      have z8 : decide (Z ≤ 0) = false := decide_eq_false y8
      have z9 : decide (0 ≤ Z) = true := decide_eq_true y9
      gi_wp2
      refine ⟨trivial, fun h => (by cases h), (callsIn_wide).2 ((takeM_any false true wq).mono ?_)⟩
      rintro e wt ⟨rfl, rfl⟩
      have htk : tM false true = false := rfl
      rw [htk] at HN ⊢
      gi_wp2
      refine ⟨fun f h => (by cases h), ?_⟩
      gi_wp2
      go_roundw
      case rel => exact ⟨i, k + 1, pre, rest, by omega, by omega, rfl, by go_num, HX, HN, bkq, hjq⟩
      case measure => simp [RowKit.intOf]; omega
    have x1 : (i : Int) < xa.length := by omega
    rcases Int.lt_trichotomy (fstC PC.cmp (xa.drop i) (xb.drop k)) 0 with hz | hz | hz
    · obtain ⟨x, ta, exa⟩ := fst_lt hz (by rw [List.length_drop, List.length_drop]; omega)
      have hi2 : i < xa.length := by have := congrArg List.length exa; rw [List.length_drop, List.length_cons] at this; omega
      have hxi : xa[i] = x := by rw [List.drop_eq_getElem_cons hi2] at exa; exact (List.cons.inj exa).1
      have hta : ta = xa.drop (i + 1) := by rw [List.drop_eq_getElem_cons hi2] at exa; exact (List.cons.inj exa).2.symm
      have HN : Hid (rest.map (fun x => x.1) = oneIf (tM true false) x ++ wkL PC.cmp tM (xa.drop (i + 1)) (xb.drop k)) := by
        show _ = _
        rw [HR.out, exa, wk_lt (by rw [← exa]; exact hz), hta]
      clear exa hta HR
      have CI : Hid (∀ z : Sub wr.heap.size wr, Calls Tryz.prog 57 #[.slice (Option.map (fun x => x.add i) aa) (xa.length - i) (ca - i), .slice (Option.map (fun x => x.add k) ab) (xb.length - k) (cb - k)] z.w fun e w'' => e = .returned (.int .i64 (fstC PC.cmp (xa.drop i) (xb.drop k))) ∧ ∃ y : Sub wr.heap.size wr, w'' = y.w) := sub_call fun w' hbb => by
        have ra : RdR w' T aa ca ba oa xa := RA.out.below hbb
        have rb : RdR w' T ab cb bb ob xb := RB.out.below hbb
        have := fstp_any (xa.drop i) (xb.drop k) (Option.map (fun x => x.add i) aa) (ca - i) _ _ (Option.map (fun x => x.add k) ab) (cb - k) _ _ w' (ra.drop i hi (by omega)) (rb.drop k hk (by omega)) (fun x hx => (hbb.block x (HSr.out x hx).1).trans (HSr.out x hx).2) (fun x hx => Nat.lt_of_lt_of_le (HSr.out x hx).1 hbb.size)
        rw [List.length_drop, List.length_drop] at this
        exact this.mono fun e w'' h => ⟨h.1, hbb.trans (h.2.mono hbb.size)⟩
      generalize fstC PC.cmp (xa.drop i) (xb.drop k) = Z at *
      gi_wp2
      refine wpIn_wide.2 ?_
      refine wp_region_sub wr.heap.size (by kernel_rfl) (by kernel_rfl) ?_
      repeat (go_big_quiet_step (exact CI.out _))
      refine wpQuiet_nil ?_
      rintro wq ⟨⟨wq', bq⟩, hq⟩
      have hq' : wq = wq' := hq
      subst hq'
      clear hq CI p1 p2 c1 c2
      have hjq : J pre wq := hJ _ _ _ none hj ⟨bq.os, bq.tape, bq.output, bq.size, fun q hq _ => bq.block q hq⟩ (fun r e => by cases e)
      have bkq : Kx n0 vx w wq := bw.trans (kx_of (bq.mono (Nat.le_trans hn0 bw.size)))
      have d1 := (bkq.cell (p := ⟨A1, 0, none⟩) hA1 hv1).trans h1
      have d2 := (bkq.cell (p := ⟨A2, 0, none⟩) hA2 hv2).trans h2
      have d3 := (bkq.cell (p := ⟨A3, 0, none⟩) hA3 hv3).trans h3
      clear hj
      obtain rfl : aa = some ⟨ba, oa, none⟩ := RA.out.hd.at_.resolve_left (by omega)
      have ea : wq.cell? ⟨ba, oa + i, none⟩ = some (.slice x.ao x.p.length x.cap) := ((RA.out.below bq).cell i hi2).trans (by rw [hxi]; rfl)
      have y6 : (i : Int) < xa.length := by omega
      have y8 : (Z ≤ 0) := by omega
      have y9 : ¬ (0 ≤ Z) := by omega
      have z8 : decide (Z ≤ 0) = true := decide_eq_true y8
      have z9 : decide (0 ≤ Z) = false := decide_eq_false y9
      gi_wp2
      refine ⟨trivial, fun h => (by cases h), (callsIn_wide).2 ((takeM_any true false wq).mono ?_)⟩
      rintro e wt ⟨rfl, rfl⟩
      have htk : tM true false = false := rfl
      rw [htk] at HN ⊢
      gi_wp2
      refine ⟨fun f h => (by cases h), ?_⟩
      gi_wp2
      go_roundw
      case rel => exact ⟨i + 1, k, pre, rest, by omega, by omega, by go_num, rfl, HX, HN, bkq, hjq⟩
      case measure => simp [RowKit.intOf]; omega
    · obtain ⟨x, ta, y, tb, exa, exb, hxy⟩ := fst_eq hz
      have hi2 : i < xa.length := by have := congrArg List.length exa; rw [List.length_drop, List.length_cons] at this; omega
      have hxi : xa[i] = x := by rw [List.drop_eq_getElem_cons hi2] at exa; exact (List.cons.inj exa).1
      have hta : ta = xa.drop (i + 1) := by rw [List.drop_eq_getElem_cons hi2] at exa; exact (List.cons.inj exa).2.symm
      have hk2 : k < xb.length := by have := congrArg List.length exb; rw [List.length_drop, List.length_cons] at this; omega
      have hyk : xb[k] = y := by rw [List.drop_eq_getElem_cons hk2] at exb; exact (List.cons.inj exb).1
      have htb : tb = xb.drop (k + 1) := by rw [List.drop_eq_getElem_cons hk2] at exb; exact (List.cons.inj exb).2.symm
      have HN : Hid (rest.map (fun x => x.1) = oneIf (tM true true) y ++ wkL PC.cmp tM (xa.drop (i + 1)) (xb.drop (k + 1))) := by
        show _ = _
        rw [HR.out, exa, exb, wk_eq hxy, hta, htb]
      clear exa hta exb htb hxy HR
      have CI : Hid (∀ z : Sub wr.heap.size wr, Calls Tryz.prog 57 #[.slice (Option.map (fun x => x.add i) aa) (xa.length - i) (ca - i), .slice (Option.map (fun x => x.add k) ab) (xb.length - k) (cb - k)] z.w fun e w'' => e = .returned (.int .i64 (fstC PC.cmp (xa.drop i) (xb.drop k))) ∧ ∃ y : Sub wr.heap.size wr, w'' = y.w) := sub_call fun w' hbb => by
        have ra : RdR w' T aa ca ba oa xa := RA.out.below hbb
        have rb : RdR w' T ab cb bb ob xb := RB.out.below hbb
        have := fstp_any (xa.drop i) (xb.drop k) (Option.map (fun x => x.add i) aa) (ca - i) _ _ (Option.map (fun x => x.add k) ab) (cb - k) _ _ w' (ra.drop i hi (by omega)) (rb.drop k hk (by omega)) (fun x hx => (hbb.block x (HSr.out x hx).1).trans (HSr.out x hx).2) (fun x hx => Nat.lt_of_lt_of_le (HSr.out x hx).1 hbb.size)
        rw [List.length_drop, List.length_drop] at this
        exact this.mono fun e w'' h => ⟨h.1, hbb.trans (h.2.mono hbb.size)⟩
      generalize fstC PC.cmp (xa.drop i) (xb.drop k) = Z at *
      gi_wp2
      refine wpIn_wide.2 ?_
      refine wp_region_sub wr.heap.size (by kernel_rfl) (by kernel_rfl) ?_
      repeat (go_big_quiet_step (exact CI.out _))
      refine wpQuiet_nil ?_
      rintro wq ⟨⟨wq', bq⟩, hq⟩
      have hq' : wq = wq' := hq
      subst hq'
      clear hq CI p1 p2 c1 c2
      have hjq : J pre wq := hJ _ _ _ none hj ⟨bq.os, bq.tape, bq.output, bq.size, fun q hq _ => bq.block q hq⟩ (fun r e => by cases e)
      have bkq : Kx n0 vx w wq := bw.trans (kx_of (bq.mono (Nat.le_trans hn0 bw.size)))
      have d1 := (bkq.cell (p := ⟨A1, 0, none⟩) hA1 hv1).trans h1
      have d2 := (bkq.cell (p := ⟨A2, 0, none⟩) hA2 hv2).trans h2
      have d3 := (bkq.cell (p := ⟨A3, 0, none⟩) hA3 hv3).trans h3
      clear hj
      obtain rfl : aa = some ⟨ba, oa, none⟩ := RA.out.hd.at_.resolve_left (by omega)
      have ea : wq.cell? ⟨ba, oa + i, none⟩ = some (.slice x.ao x.p.length x.cap) := ((RA.out.below bq).cell i hi2).trans (by rw [hxi]; rfl)
      have y6 : (i : Int) < xa.length := by omega
      obtain rfl : ab = some ⟨bb, ob, none⟩ := RB.out.hd.at_.resolve_left (by omega)
      have eb : wq.cell? ⟨bb, ob + k, none⟩ = some (.slice y.ao y.p.length y.cap) := ((RB.out.below bq).cell k hk2).trans (by rw [hyk]; rfl)
      have y7 : (k : Int) < xb.length := by omega
      have y8 : (Z ≤ 0) := by omega
      have y9 : (0 ≤ Z) := by omega
      have z8 : decide (Z ≤ 0) = true := decide_eq_true y8
      have z9 : decide (0 ≤ Z) = true := decide_eq_true y9
      gi_wp2
      refine ⟨trivial, fun h => (by cases h), (callsIn_wide).2 ((takeM_any true true wq).mono ?_)⟩
      rintro e wt ⟨rfl, rfl⟩
      have htk : tM true true = true := rfl
      rw [htk] at HN ⊢
      obtain ⟨q, rest', rfl, hqe, hrs⟩ := map_cons HN.out
      obtain ⟨fn, tmps, assign, body, hy, hR⟩ := hY pre q wt hjq (by rw [HX.out]; simp)
      rw [hqe] at hy
      simp only [PC.enc] at hy
      gi_wp2
      refine ⟨fun h => (by cases h), hR.mono ?_⟩
      rintro e W3 (⟨rfl, hJ3, hk3⟩ | ⟨rfl, hJx3⟩)
      · gi_wp2
        go_roundw
        case rel => exact ⟨i + 1, k + 1, pre ++ [q], rest', by omega, by omega, by go_num, by go_num, hmk (by rw [HX.out]; simp), hrs, bkq.trans hk3, hJ3⟩
        case measure => simp [RowKit.intOf]; omega
      · gi_wp2
        refine bodyPost_ret (results_none rfl _ _ _) rfl ?_
        exact ⟨⟨_, rfl⟩, .inr ⟨pre ++ [q], trivial, hJx3⟩⟩
    · obtain ⟨y, tb, exb⟩ := fst_gt hz
      have hk2 : k < xb.length := by have := congrArg List.length exb; rw [List.length_drop, List.length_cons] at this; omega
      have hyk : xb[k] = y := by rw [List.drop_eq_getElem_cons hk2] at exb; exact (List.cons.inj exb).1
      have htb : tb = xb.drop (k + 1) := by rw [List.drop_eq_getElem_cons hk2] at exb; exact (List.cons.inj exb).2.symm
      have HN : Hid (rest.map (fun x => x.1) = oneIf (tM false true) y ++ wkL PC.cmp tM (xa.drop i) (xb.drop (k + 1))) := by
        show _ = _
        rw [HR.out, exb, wk_gt (by rw [← exb]; exact hz), htb]
      clear exb htb HR
      have CI : Hid (∀ z : Sub wr.heap.size wr, Calls Tryz.prog 57 #[.slice (Option.map (fun x => x.add i) aa) (xa.length - i) (ca - i), .slice (Option.map (fun x => x.add k) ab) (xb.length - k) (cb - k)] z.w fun e w'' => e = .returned (.int .i64 (fstC PC.cmp (xa.drop i) (xb.drop k))) ∧ ∃ y : Sub wr.heap.size wr, w'' = y.w) := sub_call fun w' hbb => by
        have ra : RdR w' T aa ca ba oa xa := RA.out.below hbb
        have rb : RdR w' T ab cb bb ob xb := RB.out.below hbb
        have := fstp_any (xa.drop i) (xb.drop k) (Option.map (fun x => x.add i) aa) (ca - i) _ _ (Option.map (fun x => x.add k) ab) (cb - k) _ _ w' (ra.drop i hi (by omega)) (rb.drop k hk (by omega)) (fun x hx => (hbb.block x (HSr.out x hx).1).trans (HSr.out x hx).2) (fun x hx => Nat.lt_of_lt_of_le (HSr.out x hx).1 hbb.size)
        rw [List.length_drop, List.length_drop] at this
        exact this.mono fun e w'' h => ⟨h.1, hbb.trans (h.2.mono hbb.size)⟩
      generalize fstC PC.cmp (xa.drop i) (xb.drop k) = Z at *
      gi_wp2
      refine wpIn_wide.2 ?_
      refine wp_region_sub wr.heap.size (by kernel_rfl) (by kernel_rfl) ?_
      repeat (go_big_quiet_step (exact CI.out _))
      refine wpQuiet_nil ?_
      rintro wq ⟨⟨wq', bq⟩, hq⟩
      have hq' : wq = wq' := hq
      subst hq'
      clear hq CI p1 p2 c1 c2
      have hjq : J pre wq := hJ _ _ _ none hj ⟨bq.os, bq.tape, bq.output, bq.size, fun q hq _ => bq.block q hq⟩ (fun r e => by cases e)
      have bkq : Kx n0 vx w wq := bw.trans (kx_of (bq.mono (Nat.le_trans hn0 bw.size)))
      have d1 := (bkq.cell (p := ⟨A1, 0, none⟩) hA1 hv1).trans h1
      have d2 := (bkq.cell (p := ⟨A2, 0, none⟩) hA2 hv2).trans h2
      have d3 := (bkq.cell (p := ⟨A3, 0, none⟩) hA3 hv3).trans h3
      clear hj
      obtain rfl : ab = some ⟨bb, ob, none⟩ := RB.out.hd.at_.resolve_left (by omega)
      have eb : wq.cell? ⟨bb, ob + k, none⟩ = some (.slice y.ao y.p.length y.cap) := ((RB.out.below bq).cell k hk2).trans (by rw [hyk]; rfl)
      have y7 : (k : Int) < xb.length := by omega
      have y8 : ¬ (Z ≤ 0) := by omega
      have y9 : (0 ≤ Z) := by omega
      have z8 : decide (Z ≤ 0) = false := decide_eq_false y8
      have z9 : decide (0 ≤ Z) = true := decide_eq_true y9
      gi_wp2
      refine ⟨trivial, fun h => (by cases h), (callsIn_wide).2 ((takeM_any false true wq).mono ?_)⟩
      rintro e wt ⟨rfl, rfl⟩
      have htk : tM false true = false := rfl
      rw [htk] at HN ⊢
      gi_wp2
      refine ⟨fun f h => (by cases h), ?_⟩
      gi_wp2
      go_roundw
      case rel => exact ⟨i, k + 1, pre, rest, by omega, by omega, rfl, by go_num, HX, HN, bkq, hjq⟩
      case measure => simp [RowKit.intOf]; omega
end Go.Proofs.YthlhkhcbkgbhfaaGreatDoor
