import Derived.Test.YtfekgeaopchilaaGreatDoorLefN
import Derived.Test.YtfekgeaopchilaaGreatDoorLefQ
import Derived.Test.YtfekgeaopchilaaGreatDoorLefT
/- leaves.Put. -/
set_option linter.unusedSimpArgs false
set_option linter.unusedVariables false
namespace Go.Proofs.YtfekgeaopchilaaGreatDoor
open Go.RowKit Go.Lib
theorem liesF_drop1 {w : World} {S : Nat → Prop} {l : List Lf} {i b o : Nat} (h : liesF w S (l.drop i) b o) : liesF w S (l.drop (i + 1)) b (o + 7) := by
  have h1 := liesF_drop h 1
  rw [List.drop_drop] at h1
  exact h1
theorem putF_wt : ∀ (n : Nat) (l m : List Lf), l.length + m.length ≤ n → wtF (putF l m) ≤ wtF l + wtF m
  | n, [], m, _ => by rw [putF_nil]; simp [wtF]
  | n, x :: l, [], _ => by rw [putF_nil2]; simp [wtF]
  | 0, x :: l, y :: m, h => by simp at h
  | n + 1, x :: l, y :: m, h => by
    simp only [List.length_cons] at h
    rw [putF]
    split
    · have := putF_wt n l (y :: m) (by simp only [List.length_cons]; omega)
      simp only [wtF] at this ⊢; omega
    · split
      · have := putF_wt n l m (by omega)
        simp only [wtF] at this ⊢; omega
      · have := putF_wt n (x :: l) m (by simp only [List.length_cons]; omega)
        simp only [wtF] at this ⊢; omega
theorem putF_mem : ∀ (n : Nat) (l m : List Lf), l.length + m.length ≤ n → ∀ z ∈ putF l m, z ∈ l ∨ z ∈ m
  | n, [], m, _ => by rw [putF_nil]; exact fun z h => .inr h
  | n, x :: l, [], _ => by rw [putF_nil2]; exact fun z h => .inl h
  | 0, x :: l, y :: m, h => by simp at h
  | n + 1, x :: l, y :: m, h => by
    simp only [List.length_cons] at h
    rw [putF]
    split
    · intro z hz
      rcases List.mem_cons.1 hz with rfl | hz
      · exact .inl (by simp)
      · exact (putF_mem n l (y :: m) (by simp only [List.length_cons]; omega) z hz).imp (fun h => List.mem_cons_of_mem _ h) id
    · split
      · intro z hz
        rcases List.mem_cons.1 hz with rfl | hz
        · exact .inr (by simp)
        · exact (putF_mem n l m (by omega) z hz).imp (fun h => List.mem_cons_of_mem _ h) (fun h => List.mem_cons_of_mem _ h)
      · intro z hz
        rcases List.mem_cons.1 hz with rfl | hz
        · exact .inr (by simp)
        · exact (putF_mem n (x :: l) m (by simp only [List.length_cons]; omega) z hz).imp id (fun h => List.mem_cons_of_mem _ h)
set_option maxHeartbeats 16000000 in
set_option maxRecDepth 100000 in
theorem put_any (l m : List Lf) (S : Nat → Prop) (al : Option Addr) (cl bl ol : Nat) (am : Option Addr) (cm bm om : Nat) (w : World) (hal : Headed al l.length cl bl ol) (hl : liesF w S l bl ol) (ham : Headed am m.length cm bm om) (hm : liesF w S m bm om) (hS : ∀ b, S b → b < w.heap.size) (hwl : wtF l ≤ 2147483647) (hwm : wtF m ≤ 2147483647) (tb : Tb w) (okl : ∀ x ∈ l, pathB x.1 = true ∧ okV x.2 = true) (okm : ∀ x ∈ m, pathB x.1 = true ∧ okV x.2 = true) (hsum : wtF l + wtF m ≤ 4294967294) :
    Calls Tryz.prog 15 #[.slice al l.length cl, .slice am m.length cm] w (TfPost (putF l m) S w) := by
  have hlm := wtF_len l
  have hmm := wtF_len m
  have HTB := hmk tb
  have HOK : Hid (∀ x ∈ putF l m, pathB x.1 = true ∧ okV x.2 = true) := fun x hx => (putF_mem _ l m (Nat.le_refl _) x hx).elim (okl x) (okm x)
  have HPW := hmk (putF_wt _ l m (Nat.le_refl _))
  have kb : Hid (∀ W, Below w.heap.size w W → (∀ b, S b → W.heap[b]? = w.heap[b]?) ∧ (∀ b, S b → b < W.heap.size)) := fun W hb => ⟨fun b h => hb.block b (hS b h), fun b h => Nat.lt_of_lt_of_le (hS b h) hb.size⟩
  have hl0 : liesF w S (l.drop 0) bl ol := by rw [List.drop_zero]; exact hl
  have hm0 : liesF w S (m.drop 0) bm om := by rw [List.drop_zero]; exact hm
  clear hl hm tb okl okm
  go_enter Tryz.func15, Tryz.ntmps15
  go_wp2_with fail
  go_loopw [0, 1, 5] (fun e0 e1 e5 wr => ∃ (i k n0 n1 : Nat) (out : List Lf) (a0 : Option Addr) (c0 b0 o0 : Nat) (a1 : Option Addr) (c1 b1 o1 : Nat), n0 + i = l.length ∧ n1 + k = m.length ∧ e0 = .slice a0 n0 c0 ∧ e1 = .slice a1 n1 c1 ∧ Headed a0 n0 c0 b0 o0 ∧ Headed a1 n1 c1 b1 o1 ∧ liesF w S (l.drop i) b0 o0 ∧ liesF w S (m.drop k) b1 o1 ∧ out.length ≤ i + k ∧ OutF w S out e5 wr ∧ Hid (putF l m = out ++ putF (l.drop i) (m.drop k))) (fun e0 e1 _ _ => lenQ e0 + lenQ e1)
  case atStart => exact ⟨0, 0, l.length, m.length, [], al, cl, bl, ol, am, cm, bm, om, by omega, by omega, rfl, rfl, hal, ham, hl0, hm0, by simp, OutF.nil _ _, by show _ = _; simp⟩
  case round =>
    clear hl0 hm0
    obtain ⟨i, k, n0, n1, out, a0, c0, b0, o0, a1, c1, b1, o1, hi, hk, rfl, rfl, hh0, hh1, hl0, hm0, hout, oj, HF⟩ := hrel
    by_cases hbo : 0 < n0 ∧ 0 < n1
    · obtain ⟨hn0, hn1⟩ := hbo
      have y1 : (0 : Int) < n0 := by omega
      have y2 : (0 : Int) < n1 := by omega
      have y1d : decide (0 < n0) = true := decide_eq_true hn0
      have y2d : decide (0 < n1) = true := decide_eq_true hn1
      have xlt : i < l.length := by omega
      have ylt : k < m.length := by omega
      obtain ⟨a0', c0', hsl0, hh0'⟩ := slF1 a0 n0 c0 b0 o0 hh0 hn0
      obtain ⟨a1', c1', hsl1, hh1'⟩ := slF1 a1 n1 c1 b1 o1 hh1 hn1
      have hl0' := liesF_drop1 hl0
      have hm0' := liesF_drop1 hm0
      have xlen : 0 < (l.drop i).length := by rw [List.length_drop]; omega
      have xe : (l.drop i)[0]'xlen = l[i] := by rw [List.getElem_drop]; rfl
      obtain ⟨xSb, xcs, xrow', xv, xis, rfl, ⟨xap, xcp, xbp, xop, rfl, xhh, xlp⟩, xhv⟩ := hl0 0 xlen
      rw [xe] at xhh xlp xhv xrow'
      have xrow : rowAt w b0 o0 (.slice xap (l[i]).1.length xcp :: xis) := by simpa using xrow'
      obtain rfl : a0 = some ⟨b0, o0, none⟩ := hh0.at_.resolve_left (by omega)
      have xLF0 : Hid (Lf.lies w S l[i] (.slice xap (l[i]).1.length xcp :: xis)) := ⟨_, _, rfl, ⟨xap, xcp, xbp, xop, rfl, xhh, xlp⟩, xhv⟩
      obtain ⟨xvk, xvb, xvi, xvs, xval, xvnl, xvcl, xvam, xvnm, xvcm, rfl⟩ := V.ten xhv
      have xROW := hmk xrow
      have xLP := hmk xlp
      clear xrow xrow' xlp xhv xe
      have ylen : 0 < (m.drop k).length := by rw [List.length_drop]; omega
      have ye : (m.drop k)[0]'ylen = m[k] := by rw [List.getElem_drop]; rfl
      obtain ⟨ySb, ycs, yrow', yv, yis, rfl, ⟨yap, ycp, ybp, yop, rfl, yhh, ylp⟩, yhv⟩ := hm0 0 ylen
      rw [ye] at yhh ylp yhv yrow'
      have yrow : rowAt w b1 o1 (.slice yap (m[k]).1.length ycp :: yis) := by simpa using yrow'
      obtain rfl : a1 = some ⟨b1, o1, none⟩ := hh1.at_.resolve_left (by omega)
      have yLF0 : Hid (Lf.lies w S m[k] (.slice yap (m[k]).1.length ycp :: yis)) := ⟨_, _, rfl, ⟨yap, ycp, ybp, yop, rfl, yhh, ylp⟩, yhv⟩
      obtain ⟨yvk, yvb, yvi, yvs, yval, yvnl, yvcl, yvam, yvnm, yvcm, rfl⟩ := V.ten yhv
      have yROW := hmk yrow
      have yLP := hmk ylp
      clear yrow yrow' ylp yhv ye
      obtain ⟨q, q0, q1, q2, q3, q4, q5⟩ := row7 (xROW.out.keep ((kb.out wr oj.b).1 _ xSb))
      obtain ⟨r, r0, r1, r2, r3, r4, r5⟩ := row7 (yROW.out.keep ((kb.out wr oj.b).1 _ ySb))
      have CW : Hid (∀ x : Sub wr.heap.size wr, Calls Tryz.prog 33 #[.slice xap (l[i]).1.length xcp, .slice yap (m[k]).1.length ycp] x.w fun e w'' => e = .returned (.int .i64 (lexL oeE (l[i]).1 (m[k]).1)) ∧ ∃ y : Sub wr.heap.size wr, w'' = y.w) :=
        sub_call fun w' hb => (opaths_any (l[i]).1 (m[k]).1 S S xap xcp xbp xop yap ycp ybp yop w' xhh (liesP_keep (kb.out w' (oj.below hb).b).1 (fun _ h => h) xLP.out) yhh (liesP_keep (kb.out w' (oj.below hb).b).1 (fun _ h => h) yLP.out) (kb.out w' (oj.below hb).b).2 (kb.out w' (oj.below hb).b).2).mono fun e w'' ⟨he, h2⟩ => ⟨he, hb.trans (h2.mono hb.size)⟩
      have xq : ∀ x : Sub wr.heap.size wr, _ := sub_cell q ((kb.out wr oj.b).2 _ xSb)
      have xr : ∀ x : Sub wr.heap.size wr, _ := sub_cell r ((kb.out wr oj.b).2 _ ySb)
      have HOJ := hmk oj
      have HLT := hmk (putF_lt xlt ylt)
      have HEQ := hmk (putF_eq xlt ylt)
      have HGT := hmk (putF_gt xlt ylt)
      have HKW : Hid (∀ W, (∀ b, S b → W.heap[b]? = w.heap[b]?) → rowAt W b0 o0 [.slice xap (l[i]).1.length xcp, .int .i64 xvk, .bool xvb, .int .i64 xvi, .string xvs, .slice xval xvnl xvcl, .slice xvam xvnm xvcm] ∧ rowAt W b1 o1 [.slice yap (m[k]).1.length ycp, .int .i64 yvk, .bool yvb, .int .i64 yvi, .string yvs, .slice yval yvnl yvcl, .slice yvam yvnm yvcm]) := fun W h => ⟨xROW.out.keep (h _ xSb), yROW.out.keep (h _ ySb)⟩
      generalize lexL oeE (l[i]).1 (m[k]).1 = cc at *
      clear q q0 q1 q2 q3 q4 q5 r r0 r1 r2 r3 r4 r5 oj
      by_cases hlt : cc < 0
      · have HF2 : Hid (putF l m = (out ++ [l[i]]) ++ putF (l.drop (i + 1)) (m.drop k)) := by show _ = _; rw [HF.out, HLT.out hlt]; simp
        go_wp2_with fail
        refine wp_region_sub wr.heap.size (by kernel_rfl) (by kernel_rfl) ?_
        repeat (go_big_quiet_step (first | exact CW.out _))
        refine wpQuiet_nil ?_
        rintro w2 ⟨⟨wq', bq⟩, hq⟩
        have hq' : w2 = wq' := hq
        subst hq'
        clear hq
        have o2 := HOJ.out.below bq
        clear CW xq xr bq HOJ HLT HEQ HGT
        go_wp2_with fail
        have HK2 : Hid (∀ b, S b → w2.heap[b]? = w.heap[b]?) := (kb.out w2 o2.b).1
        have HKD : Hid (∀ b, S b → w2.drew.heap[b]? = w.heap[b]?) := (kb.out w2 o2.b).1
        refine wp_region_held_drew (S := fun W => ∀ b, S b → W.heap[b]? = w.heap[b]?) (by kernel_rfl) HKD.out (fun hHeld => ?_)
        (refine wpAnyH_take (i := 0) (v := ?_) rfl (by kernel_rfl) (by kernel_rfl) (by kernel_rfl) (fun _ _ _ h => h) (Or.inl ⟨by kernel_rfl, ?_⟩) (by assumption) ?_; rotate_left 1; (intro W0 hSw; (try dsimp only at hSw); go_simp; (try with_reducible rfl)); (try simp only [Act.put, List.setIfInBounds_toArray, List.set_cons_zero, List.set_cons_succ]))
        (refine wpAnyH_take (i := 1) (v := ?_) rfl (by kernel_rfl) (by kernel_rfl) (by kernel_rfl) (fun _ _ _ h => h) (Or.inl ⟨by kernel_rfl, ?_⟩) (by assumption) ?_; rotate_left 1; (intro W0 hSw; (try dsimp only at hSw); go_simp; (try with_reducible rfl)); (try simp only [Act.put, List.setIfInBounds_toArray, List.set_cons_zero, List.set_cons_succ]))
        (refine wpAnyH_take (i := 2) (v := ?_) rfl (by kernel_rfl) (by kernel_rfl) (by kernel_rfl) (fun _ _ _ h => h) (Or.inl ⟨by kernel_rfl, ?_⟩) (by assumption) ?_; rotate_left 1; (intro W0 hSw; (try dsimp only at hSw); go_simp; (try with_reducible rfl)); (try simp only [Act.put, List.setIfInBounds_toArray, List.set_cons_zero, List.set_cons_succ]))
        (refine wpAnyH_take (i := 3) (v := ?_) rfl (by kernel_rfl) (by kernel_rfl) (by kernel_rfl) (fun _ _ _ h => h) (Or.inl ⟨by kernel_rfl, ?_⟩) (by assumption) ?_; rotate_left 1; (intro W0 hSw; obtain ⟨z, z0, z1, z2, z3, z4, z5⟩ := row7 (HKW.out W0 hSw).1; go_simp; (try with_reducible rfl)); (try simp only [Act.put, List.setIfInBounds_toArray, List.set_cons_zero, List.set_cons_succ]))
        (refine wpAnyH_take (i := 6) (v := ?_) rfl (by kernel_rfl) (by kernel_rfl) (by kernel_rfl) (fun _ _ _ h => h) (Or.inl ⟨by kernel_rfl, ?_⟩) (by assumption) ?_; rotate_left 1; (intro W0 hSw; (try dsimp only at hSw); go_simp; (try with_reducible rfl)); (try simp only [Act.put, List.setIfInBounds_toArray, List.set_cons_zero, List.set_cons_succ]))
        (refine wpAnyH_take (i := 7) (v := ?_) rfl (by kernel_rfl) (by kernel_rfl) (by kernel_rfl) (fun _ _ _ h => h) (Or.inl ⟨by kernel_rfl, ?_⟩) (by assumption) ?_; rotate_left 1; (intro W0 hSw; (try dsimp only at hSw); go_simp; (try with_reducible rfl)); (try simp only [Act.put, List.setIfInBounds_toArray, List.set_cons_zero, List.set_cons_succ]))
        refine wpAnyH_ready (rs := [4]) (by kernel_rfl) (by simp) ?_
        refine AllReadyH.cons rfl (fun K hK => ?_) AllReadyH.nil
        go_simp
        have od := o2.below ((Below.refl w2.heap.size w2).drew)
        refine hK.out _ _ ((kb.out _ (od.b.alloc od.b.size _)).1) (fun hHeld => ?_)
        clear hK K
        (try simp only [Act.put, List.setIfInBounds_toArray, List.set_cons_zero, List.set_cons_succ])
        have HLF : Lf.lies w2.drew S l[i] [.slice xap (l[i]).1.length xcp, .int .i64 xvk, .bool xvb, .int .i64 xvi, .string xvs, .slice xval xvnl xvcl, .slice xvam xvnm xvcm] := Lf.keep HKD.out (fun _ h => h) xLF0.out
        refine wpAnyH_ready (rs := [5]) (by kernel_rfl) (by simp) ?_
        refine AllReadyH.cons rfl (fun K hK => ?_) AllReadyH.nil
        refine step_outF rfl (.tmp 26) (.tmp 30) rfl _ rfl od hS HLF (fun b h => .inl h) 1 rfl (by omega) ?_
        intro g5 cap w5 o5 gr5
        have HK5 := (kb.out w5 o5.b).1
        refine hK.out _ _ HK5 (fun hHeld => ?_)
        clear hK K
        (try simp only [Act.put, List.setIfInBounds_toArray, List.set_cons_zero, List.set_cons_succ])
        first
          | (refine wpAnyH_take (i := 8) (v := ?_) rfl (by kernel_rfl) (by kernel_rfl) (by kernel_rfl) (fun _ _ _ h => h) (Or.inl ⟨by kernel_rfl, ?_⟩) (by assumption) ?_; rotate_left 1; (intro W0 hSw; (try dsimp only at hSw); go_simp; (try with_reducible rfl)); (try simp only [Act.put, List.setIfInBounds_toArray, List.set_cons_zero, List.set_cons_succ]))
          | (refine wpAnyH_ready (rs := [8]) (by kernel_rfl) (by simp) ?_; refine AllReadyH.cons rfl (fun K hK => ?_) AllReadyH.nil; go_simp; refine hK.out _ _ HK5 (fun hHeld => ?_); clear hK K; (try simp only [Act.put, List.setIfInBounds_toArray, List.set_cons_zero, List.set_cons_succ]))
        first
          | (refine wpAnyH_take (i := 9) (v := ?_) rfl (by kernel_rfl) (by kernel_rfl) (by kernel_rfl) (fun _ _ _ h => h) (Or.inl ⟨by kernel_rfl, ?_⟩) (by assumption) ?_; rotate_left 1; (intro W0 hSw; (try dsimp only at hSw); go_simp; (try with_reducible rfl)); (try simp only [Act.put, List.setIfInBounds_toArray, List.set_cons_zero, List.set_cons_succ]))
          | (refine wpAnyH_ready (rs := [9]) (by kernel_rfl) (by simp) ?_; refine AllReadyH.cons rfl (fun K hK => ?_) AllReadyH.nil; go_simp; refine hK.out _ _ HK5 (fun hHeld => ?_); clear hK K; (try simp only [Act.put, List.setIfInBounds_toArray, List.set_cons_zero, List.set_cons_succ]))
        refine wpAnyH_done (by kernel_rfl) ?_ _
        (try dsimp only [Act.put, List.getElem_toArray, List.getElem_cons_succ, List.getElem_cons_zero, List.setIfInBounds_toArray, List.set_cons_zero, List.set_cons_succ])
        clear hHeld HLF od gr5
        go_wp2_with fail
        go_roundw
        case rel => first | exact ⟨_, _, _, _, _, _, _, _, _, _, _, _, _, _, _, _, _, _, _, _, _, _, _, _, _, _, _, _, _, _, _, _, _, _, _, _, _, _, _, _, _, _, _, ⟨i + 1, k, n0 - 1, n1, out ++ [l[i]], a0', c0', b0, o0 + 7, _, c1, b1, o1, by omega, by omega, rfl, rfl, hh0', hh1, hl0', hm0, by simp; omega, o5, HF2⟩, rfl⟩ | exact ⟨_, _, _, _, _, _, _, _, _, _, _, _, _, _, _, _, _, _, _, _, _, _, _, _, _, _, _, _, _, _, _, _, _, _, _, _, _, _, _, _, _, _, ⟨i + 1, k, n0 - 1, n1, out ++ [l[i]], a0', c0', b0, o0 + 7, _, c1, b1, o1, by omega, by omega, rfl, rfl, hh0', hh1, hl0', hm0, by simp; omega, o5, HF2⟩, rfl⟩ | exact ⟨_, _, _, _, _, _, _, _, _, _, _, _, _, _, _, _, _, _, _, _, _, _, _, _, _, _, _, _, _, _, _, _, _, _, _, _, _, _, _, _, _, _, _, _, ⟨i + 1, k, n0 - 1, n1, out ++ [l[i]], a0', c0', b0, o0 + 7, _, c1, b1, o1, by omega, by omega, rfl, rfl, hh0', hh1, hl0', hm0, by simp; omega, o5, HF2⟩, rfl⟩ | exact ⟨_, _, _, _, _, _, _, _, _, _, _, _, _, _, _, _, _, _, _, _, _, _, _, _, _, _, _, _, _, _, _, _, _, _, _, _, _, _, _, _, _, ⟨i + 1, k, n0 - 1, n1, out ++ [l[i]], a0', c0', b0, o0 + 7, _, c1, b1, o1, by omega, by omega, rfl, rfl, hh0', hh1, hl0', hm0, by simp; omega, o5, HF2⟩, rfl⟩ | exact ⟨_, _, _, _, _, _, _, _, _, _, _, _, _, _, _, _, _, _, _, _, _, _, _, _, _, _, _, _, _, _, _, _, _, _, _, _, _, _, _, _, _, _, _, _, _, ⟨i + 1, k, n0 - 1, n1, out ++ [l[i]], a0', c0', b0, o0 + 7, _, c1, b1, o1, by omega, by omega, rfl, rfl, hh0', hh1, hl0', hm0, by simp; omega, o5, HF2⟩, rfl⟩ | exact ⟨_, _, _, _, _, _, _, _, _, _, _, _, _, _, _, _, _, _, _, _, _, _, _, _, _, _, _, _, _, _, _, _, _, _, _, _, _, _, _, _, ⟨i + 1, k, n0 - 1, n1, out ++ [l[i]], a0', c0', b0, o0 + 7, _, c1, b1, o1, by omega, by omega, rfl, rfl, hh0', hh1, hl0', hm0, by simp; omega, o5, HF2⟩, rfl⟩ | exact ⟨_, _, _, _, _, _, _, _, _, _, _, _, _, _, _, _, _, _, _, _, _, _, _, _, _, _, _, _, _, _, _, _, _, _, _, _, _, _, _, _, _, _, _, _, _, _, ⟨i + 1, k, n0 - 1, n1, out ++ [l[i]], a0', c0', b0, o0 + 7, _, c1, b1, o1, by omega, by omega, rfl, rfl, hh0', hh1, hl0', hm0, by simp; omega, o5, HF2⟩, rfl⟩ | exact ⟨_, _, _, _, _, _, _, _, _, _, _, _, _, _, _, _, _, _, _, _, _, _, _, _, _, _, _, _, _, _, _, _, _, _, _, _, _, _, _, ⟨i + 1, k, n0 - 1, n1, out ++ [l[i]], a0', c0', b0, o0 + 7, _, c1, b1, o1, by omega, by omega, rfl, rfl, hh0', hh1, hl0', hm0, by simp; omega, o5, HF2⟩, rfl⟩ | exact ⟨_, _, _, _, _, _, _, _, _, _, _, _, _, _, _, _, _, _, _, _, _, _, _, _, _, _, _, _, _, _, _, _, _, _, _, _, _, _, _, _, _, _, _, _, _, _, _, ⟨i + 1, k, n0 - 1, n1, out ++ [l[i]], a0', c0', b0, o0 + 7, _, c1, b1, o1, by omega, by omega, rfl, rfl, hh0', hh1, hl0', hm0, by simp; omega, o5, HF2⟩, rfl⟩
        case measure => simp [lenQ]; omega
      have hdc : decide (cc < 0) = false := decide_eq_false hlt
      by_cases h0 : cc = 0
      · have y0 : (cc == 0) = true := by rw [beq_iff_eq]; exact h0
        have HF2 : Hid (putF l m = (out ++ [m[k]]) ++ putF (l.drop (i + 1)) (m.drop (k + 1))) := by show _ = _; rw [HF.out, HEQ.out h0]; simp
        clear h0
        go_wp2_with fail
        refine wp_region_sub wr.heap.size (by kernel_rfl) (by kernel_rfl) ?_
        repeat (go_big_quiet_step (first | exact CW.out _))
        refine wpQuiet_nil ?_
        rintro w2 ⟨⟨wq', bq⟩, hq⟩
        have hq' : w2 = wq' := hq
        subst hq'
        clear hq
        have o2 := HOJ.out.below bq
        clear CW xq xr bq HOJ HLT HEQ HGT
        go_wp2_with fail
        have HK2 : Hid (∀ b, S b → w2.heap[b]? = w.heap[b]?) := (kb.out w2 o2.b).1
        have HKD : Hid (∀ b, S b → w2.drew.heap[b]? = w.heap[b]?) := (kb.out w2 o2.b).1
        refine wp_region_held_drew (S := fun W => ∀ b, S b → W.heap[b]? = w.heap[b]?) (by kernel_rfl) HKD.out (fun hHeld => ?_)
        (refine wpAnyH_take (i := 0) (v := ?_) rfl (by kernel_rfl) (by kernel_rfl) (by kernel_rfl) (fun _ _ _ h => h) (Or.inl ⟨by kernel_rfl, ?_⟩) (by assumption) ?_; rotate_left 1; (intro W0 hSw; (try dsimp only at hSw); go_simp; (try with_reducible rfl)); (try simp only [Act.put, List.setIfInBounds_toArray, List.set_cons_zero, List.set_cons_succ]))
        (refine wpAnyH_take (i := 1) (v := ?_) rfl (by kernel_rfl) (by kernel_rfl) (by kernel_rfl) (fun _ _ _ h => h) (Or.inl ⟨by kernel_rfl, ?_⟩) (by assumption) ?_; rotate_left 1; (intro W0 hSw; (try dsimp only at hSw); go_simp; (try with_reducible rfl)); (try simp only [Act.put, List.setIfInBounds_toArray, List.set_cons_zero, List.set_cons_succ]))
        (refine wpAnyH_take (i := 2) (v := ?_) rfl (by kernel_rfl) (by kernel_rfl) (by kernel_rfl) (fun _ _ _ h => h) (Or.inl ⟨by kernel_rfl, ?_⟩) (by assumption) ?_; rotate_left 1; (intro W0 hSw; (try dsimp only at hSw); go_simp; (try with_reducible rfl)); (try simp only [Act.put, List.setIfInBounds_toArray, List.set_cons_zero, List.set_cons_succ]))
        (refine wpAnyH_take (i := 3) (v := ?_) rfl (by kernel_rfl) (by kernel_rfl) (by kernel_rfl) (fun _ _ _ h => h) (Or.inl ⟨by kernel_rfl, ?_⟩) (by assumption) ?_; rotate_left 1; (intro W0 hSw; obtain ⟨z, z0, z1, z2, z3, z4, z5⟩ := row7 (HKW.out W0 hSw).2; go_simp; (try with_reducible rfl)); (try simp only [Act.put, List.setIfInBounds_toArray, List.set_cons_zero, List.set_cons_succ]))
        (refine wpAnyH_take (i := 6) (v := ?_) rfl (by kernel_rfl) (by kernel_rfl) (by kernel_rfl) (fun _ _ _ h => h) (Or.inl ⟨by kernel_rfl, ?_⟩) (by assumption) ?_; rotate_left 1; (intro W0 hSw; (try dsimp only at hSw); go_simp; (try with_reducible rfl)); (try simp only [Act.put, List.setIfInBounds_toArray, List.set_cons_zero, List.set_cons_succ]))
        (refine wpAnyH_take (i := 7) (v := ?_) rfl (by kernel_rfl) (by kernel_rfl) (by kernel_rfl) (fun _ _ _ h => h) (Or.inl ⟨by kernel_rfl, ?_⟩) (by assumption) ?_; rotate_left 1; (intro W0 hSw; (try dsimp only at hSw); go_simp; (try with_reducible rfl)); (try simp only [Act.put, List.setIfInBounds_toArray, List.set_cons_zero, List.set_cons_succ]))
        refine wpAnyH_ready (rs := [4]) (by kernel_rfl) (by simp) ?_
        refine AllReadyH.cons rfl (fun K hK => ?_) AllReadyH.nil
        go_simp
        have od := o2.below ((Below.refl w2.heap.size w2).drew)
        refine hK.out _ _ ((kb.out _ (od.b.alloc od.b.size _)).1) (fun hHeld => ?_)
        clear hK K
        (try simp only [Act.put, List.setIfInBounds_toArray, List.set_cons_zero, List.set_cons_succ])
        have HLF : Lf.lies w2.drew S m[k] [.slice yap (m[k]).1.length ycp, .int .i64 yvk, .bool yvb, .int .i64 yvi, .string yvs, .slice yval yvnl yvcl, .slice yvam yvnm yvcm] := Lf.keep HKD.out (fun _ h => h) yLF0.out
        refine wpAnyH_ready (rs := [5]) (by kernel_rfl) (by simp) ?_
        refine AllReadyH.cons rfl (fun K hK => ?_) AllReadyH.nil
        refine step_outF rfl (.tmp 38) (.tmp 42) rfl _ rfl od hS HLF (fun b h => .inl h) 1 rfl (by omega) ?_
        intro g5 cap w5 o5 gr5
        have HK5 := (kb.out w5 o5.b).1
        refine hK.out _ _ HK5 (fun hHeld => ?_)
        clear hK K
        (try simp only [Act.put, List.setIfInBounds_toArray, List.set_cons_zero, List.set_cons_succ])
        first
          | (refine wpAnyH_take (i := 8) (v := ?_) rfl (by kernel_rfl) (by kernel_rfl) (by kernel_rfl) (fun _ _ _ h => h) (Or.inl ⟨by kernel_rfl, ?_⟩) (by assumption) ?_; rotate_left 1; (intro W0 hSw; (try dsimp only at hSw); go_simp; (try with_reducible rfl)); (try simp only [Act.put, List.setIfInBounds_toArray, List.set_cons_zero, List.set_cons_succ]))
          | (refine wpAnyH_ready (rs := [8]) (by kernel_rfl) (by simp) ?_; refine AllReadyH.cons rfl (fun K hK => ?_) AllReadyH.nil; go_simp; refine hK.out _ _ HK5 (fun hHeld => ?_); clear hK K; (try simp only [Act.put, List.setIfInBounds_toArray, List.set_cons_zero, List.set_cons_succ]))
        first
          | (refine wpAnyH_take (i := 9) (v := ?_) rfl (by kernel_rfl) (by kernel_rfl) (by kernel_rfl) (fun _ _ _ h => h) (Or.inl ⟨by kernel_rfl, ?_⟩) (by assumption) ?_; rotate_left 1; (intro W0 hSw; (try dsimp only at hSw); go_simp; (try with_reducible rfl)); (try simp only [Act.put, List.setIfInBounds_toArray, List.set_cons_zero, List.set_cons_succ]))
          | (refine wpAnyH_ready (rs := [9]) (by kernel_rfl) (by simp) ?_; refine AllReadyH.cons rfl (fun K hK => ?_) AllReadyH.nil; go_simp; refine hK.out _ _ HK5 (fun hHeld => ?_); clear hK K; (try simp only [Act.put, List.setIfInBounds_toArray, List.set_cons_zero, List.set_cons_succ]))
        refine wpAnyH_done (by kernel_rfl) ?_ _
        (try dsimp only [Act.put, List.getElem_toArray, List.getElem_cons_succ, List.getElem_cons_zero, List.setIfInBounds_toArray, List.set_cons_zero, List.set_cons_succ])
        clear hHeld HLF od gr5
        go_wp2_with fail
        go_roundw
        case rel => first | exact ⟨_, _, _, _, _, _, _, _, _, _, _, _, _, _, _, _, _, _, _, _, _, _, _, _, _, _, _, _, _, _, _, _, _, _, _, _, _, _, _, _, _, _, _, ⟨i + 1, k + 1, n0 - 1, n1 - 1, out ++ [m[k]], a0', c0', b0, o0 + 7, a1', c1', b1, o1 + 7, by omega, by omega, rfl, rfl, hh0', hh1', hl0', hm0', by simp; omega, o5, HF2⟩, rfl⟩ | exact ⟨_, _, _, _, _, _, _, _, _, _, _, _, _, _, _, _, _, _, _, _, _, _, _, _, _, _, _, _, _, _, _, _, _, _, _, _, _, _, _, _, _, _, ⟨i + 1, k + 1, n0 - 1, n1 - 1, out ++ [m[k]], a0', c0', b0, o0 + 7, a1', c1', b1, o1 + 7, by omega, by omega, rfl, rfl, hh0', hh1', hl0', hm0', by simp; omega, o5, HF2⟩, rfl⟩ | exact ⟨_, _, _, _, _, _, _, _, _, _, _, _, _, _, _, _, _, _, _, _, _, _, _, _, _, _, _, _, _, _, _, _, _, _, _, _, _, _, _, _, _, _, _, _, ⟨i + 1, k + 1, n0 - 1, n1 - 1, out ++ [m[k]], a0', c0', b0, o0 + 7, a1', c1', b1, o1 + 7, by omega, by omega, rfl, rfl, hh0', hh1', hl0', hm0', by simp; omega, o5, HF2⟩, rfl⟩ | exact ⟨_, _, _, _, _, _, _, _, _, _, _, _, _, _, _, _, _, _, _, _, _, _, _, _, _, _, _, _, _, _, _, _, _, _, _, _, _, _, _, _, _, ⟨i + 1, k + 1, n0 - 1, n1 - 1, out ++ [m[k]], a0', c0', b0, o0 + 7, a1', c1', b1, o1 + 7, by omega, by omega, rfl, rfl, hh0', hh1', hl0', hm0', by simp; omega, o5, HF2⟩, rfl⟩ | exact ⟨_, _, _, _, _, _, _, _, _, _, _, _, _, _, _, _, _, _, _, _, _, _, _, _, _, _, _, _, _, _, _, _, _, _, _, _, _, _, _, _, _, _, _, _, _, ⟨i + 1, k + 1, n0 - 1, n1 - 1, out ++ [m[k]], a0', c0', b0, o0 + 7, a1', c1', b1, o1 + 7, by omega, by omega, rfl, rfl, hh0', hh1', hl0', hm0', by simp; omega, o5, HF2⟩, rfl⟩ | exact ⟨_, _, _, _, _, _, _, _, _, _, _, _, _, _, _, _, _, _, _, _, _, _, _, _, _, _, _, _, _, _, _, _, _, _, _, _, _, _, _, _, ⟨i + 1, k + 1, n0 - 1, n1 - 1, out ++ [m[k]], a0', c0', b0, o0 + 7, a1', c1', b1, o1 + 7, by omega, by omega, rfl, rfl, hh0', hh1', hl0', hm0', by simp; omega, o5, HF2⟩, rfl⟩ | exact ⟨_, _, _, _, _, _, _, _, _, _, _, _, _, _, _, _, _, _, _, _, _, _, _, _, _, _, _, _, _, _, _, _, _, _, _, _, _, _, _, _, _, _, _, _, _, _, ⟨i + 1, k + 1, n0 - 1, n1 - 1, out ++ [m[k]], a0', c0', b0, o0 + 7, a1', c1', b1, o1 + 7, by omega, by omega, rfl, rfl, hh0', hh1', hl0', hm0', by simp; omega, o5, HF2⟩, rfl⟩ | exact ⟨_, _, _, _, _, _, _, _, _, _, _, _, _, _, _, _, _, _, _, _, _, _, _, _, _, _, _, _, _, _, _, _, _, _, _, _, _, _, _, ⟨i + 1, k + 1, n0 - 1, n1 - 1, out ++ [m[k]], a0', c0', b0, o0 + 7, a1', c1', b1, o1 + 7, by omega, by omega, rfl, rfl, hh0', hh1', hl0', hm0', by simp; omega, o5, HF2⟩, rfl⟩ | exact ⟨_, _, _, _, _, _, _, _, _, _, _, _, _, _, _, _, _, _, _, _, _, _, _, _, _, _, _, _, _, _, _, _, _, _, _, _, _, _, _, _, _, _, _, _, _, _, _, ⟨i + 1, k + 1, n0 - 1, n1 - 1, out ++ [m[k]], a0', c0', b0, o0 + 7, a1', c1', b1, o1 + 7, by omega, by omega, rfl, rfl, hh0', hh1', hl0', hm0', by simp; omega, o5, HF2⟩, rfl⟩
        case measure => simp [lenQ]; omega
      · have y0 : (cc == 0) = false := by rw [beq_eq_false_iff_ne]; exact h0
        have HF2 : Hid (putF l m = (out ++ [m[k]]) ++ putF (l.drop i) (m.drop (k + 1))) := by show _ = _; rw [HF.out, HGT.out hlt h0]; simp
        clear h0
        go_wp2_with fail
        refine wp_region_sub wr.heap.size (by kernel_rfl) (by kernel_rfl) ?_
        repeat (go_big_quiet_step (first | exact CW.out _))
        refine wpQuiet_nil ?_
        rintro w2 ⟨⟨wq', bq⟩, hq⟩
        have hq' : w2 = wq' := hq
        subst hq'
        clear hq
        have o2 := HOJ.out.below bq
        clear CW xq xr bq HOJ HLT HEQ HGT
        go_wp2_with fail
        have HK2 : Hid (∀ b, S b → w2.heap[b]? = w.heap[b]?) := (kb.out w2 o2.b).1
        have HKD : Hid (∀ b, S b → w2.drew.heap[b]? = w.heap[b]?) := (kb.out w2 o2.b).1
        refine wp_region_held_drew (S := fun W => ∀ b, S b → W.heap[b]? = w.heap[b]?) (by kernel_rfl) HKD.out (fun hHeld => ?_)
        (refine wpAnyH_take (i := 0) (v := ?_) rfl (by kernel_rfl) (by kernel_rfl) (by kernel_rfl) (fun _ _ _ h => h) (Or.inl ⟨by kernel_rfl, ?_⟩) (by assumption) ?_; rotate_left 1; (intro W0 hSw; (try dsimp only at hSw); go_simp; (try with_reducible rfl)); (try simp only [Act.put, List.setIfInBounds_toArray, List.set_cons_zero, List.set_cons_succ]))
        (refine wpAnyH_take (i := 1) (v := ?_) rfl (by kernel_rfl) (by kernel_rfl) (by kernel_rfl) (fun _ _ _ h => h) (Or.inl ⟨by kernel_rfl, ?_⟩) (by assumption) ?_; rotate_left 1; (intro W0 hSw; (try dsimp only at hSw); go_simp; (try with_reducible rfl)); (try simp only [Act.put, List.setIfInBounds_toArray, List.set_cons_zero, List.set_cons_succ]))
        (refine wpAnyH_take (i := 2) (v := ?_) rfl (by kernel_rfl) (by kernel_rfl) (by kernel_rfl) (fun _ _ _ h => h) (Or.inl ⟨by kernel_rfl, ?_⟩) (by assumption) ?_; rotate_left 1; (intro W0 hSw; (try dsimp only at hSw); go_simp; (try with_reducible rfl)); (try simp only [Act.put, List.setIfInBounds_toArray, List.set_cons_zero, List.set_cons_succ]))
        (refine wpAnyH_take (i := 3) (v := ?_) rfl (by kernel_rfl) (by kernel_rfl) (by kernel_rfl) (fun _ _ _ h => h) (Or.inl ⟨by kernel_rfl, ?_⟩) (by assumption) ?_; rotate_left 1; (intro W0 hSw; obtain ⟨z, z0, z1, z2, z3, z4, z5⟩ := row7 (HKW.out W0 hSw).2; go_simp; (try with_reducible rfl)); (try simp only [Act.put, List.setIfInBounds_toArray, List.set_cons_zero, List.set_cons_succ]))
        (refine wpAnyH_take (i := 6) (v := ?_) rfl (by kernel_rfl) (by kernel_rfl) (by kernel_rfl) (fun _ _ _ h => h) (Or.inl ⟨by kernel_rfl, ?_⟩) (by assumption) ?_; rotate_left 1; (intro W0 hSw; (try dsimp only at hSw); go_simp; (try with_reducible rfl)); (try simp only [Act.put, List.setIfInBounds_toArray, List.set_cons_zero, List.set_cons_succ]))
        (refine wpAnyH_take (i := 7) (v := ?_) rfl (by kernel_rfl) (by kernel_rfl) (by kernel_rfl) (fun _ _ _ h => h) (Or.inl ⟨by kernel_rfl, ?_⟩) (by assumption) ?_; rotate_left 1; (intro W0 hSw; (try dsimp only at hSw); go_simp; (try with_reducible rfl)); (try simp only [Act.put, List.setIfInBounds_toArray, List.set_cons_zero, List.set_cons_succ]))
        refine wpAnyH_ready (rs := [4]) (by kernel_rfl) (by simp) ?_
        refine AllReadyH.cons rfl (fun K hK => ?_) AllReadyH.nil
        go_simp
        have od := o2.below ((Below.refl w2.heap.size w2).drew)
        refine hK.out _ _ ((kb.out _ (od.b.alloc od.b.size _)).1) (fun hHeld => ?_)
        clear hK K
        (try simp only [Act.put, List.setIfInBounds_toArray, List.set_cons_zero, List.set_cons_succ])
        have HLF : Lf.lies w2.drew S m[k] [.slice yap (m[k]).1.length ycp, .int .i64 yvk, .bool yvb, .int .i64 yvi, .string yvs, .slice yval yvnl yvcl, .slice yvam yvnm yvcm] := Lf.keep HKD.out (fun _ h => h) yLF0.out
        refine wpAnyH_ready (rs := [5]) (by kernel_rfl) (by simp) ?_
        refine AllReadyH.cons rfl (fun K hK => ?_) AllReadyH.nil
        refine step_outF rfl (.tmp 38) (.tmp 42) rfl _ rfl od hS HLF (fun b h => .inl h) 1 rfl (by omega) ?_
        intro g5 cap w5 o5 gr5
        have HK5 := (kb.out w5 o5.b).1
        refine hK.out _ _ HK5 (fun hHeld => ?_)
        clear hK K
        (try simp only [Act.put, List.setIfInBounds_toArray, List.set_cons_zero, List.set_cons_succ])
        first
          | (refine wpAnyH_take (i := 8) (v := ?_) rfl (by kernel_rfl) (by kernel_rfl) (by kernel_rfl) (fun _ _ _ h => h) (Or.inl ⟨by kernel_rfl, ?_⟩) (by assumption) ?_; rotate_left 1; (intro W0 hSw; (try dsimp only at hSw); go_simp; (try with_reducible rfl)); (try simp only [Act.put, List.setIfInBounds_toArray, List.set_cons_zero, List.set_cons_succ]))
          | (refine wpAnyH_ready (rs := [8]) (by kernel_rfl) (by simp) ?_; refine AllReadyH.cons rfl (fun K hK => ?_) AllReadyH.nil; go_simp; refine hK.out _ _ HK5 (fun hHeld => ?_); clear hK K; (try simp only [Act.put, List.setIfInBounds_toArray, List.set_cons_zero, List.set_cons_succ]))
        first
          | (refine wpAnyH_take (i := 9) (v := ?_) rfl (by kernel_rfl) (by kernel_rfl) (by kernel_rfl) (fun _ _ _ h => h) (Or.inl ⟨by kernel_rfl, ?_⟩) (by assumption) ?_; rotate_left 1; (intro W0 hSw; (try dsimp only at hSw); go_simp; (try with_reducible rfl)); (try simp only [Act.put, List.setIfInBounds_toArray, List.set_cons_zero, List.set_cons_succ]))
          | (refine wpAnyH_ready (rs := [9]) (by kernel_rfl) (by simp) ?_; refine AllReadyH.cons rfl (fun K hK => ?_) AllReadyH.nil; go_simp; refine hK.out _ _ HK5 (fun hHeld => ?_); clear hK K; (try simp only [Act.put, List.setIfInBounds_toArray, List.set_cons_zero, List.set_cons_succ]))
        refine wpAnyH_done (by kernel_rfl) ?_ _
        (try dsimp only [Act.put, List.getElem_toArray, List.getElem_cons_succ, List.getElem_cons_zero, List.setIfInBounds_toArray, List.set_cons_zero, List.set_cons_succ])
        clear hHeld HLF od gr5
        go_wp2_with fail
        go_roundw
        case rel => first | exact ⟨_, _, _, _, _, _, _, _, _, _, _, _, _, _, _, _, _, _, _, _, _, _, _, _, _, _, _, _, _, _, _, _, _, _, _, _, _, _, _, _, _, _, _, ⟨i, k + 1, n0, n1 - 1, out ++ [m[k]], _, c0, b0, o0, a1', c1', b1, o1 + 7, by omega, by omega, rfl, rfl, hh0, hh1', hl0, hm0', by simp; omega, o5, HF2⟩, rfl⟩ | exact ⟨_, _, _, _, _, _, _, _, _, _, _, _, _, _, _, _, _, _, _, _, _, _, _, _, _, _, _, _, _, _, _, _, _, _, _, _, _, _, _, _, _, _, ⟨i, k + 1, n0, n1 - 1, out ++ [m[k]], _, c0, b0, o0, a1', c1', b1, o1 + 7, by omega, by omega, rfl, rfl, hh0, hh1', hl0, hm0', by simp; omega, o5, HF2⟩, rfl⟩ | exact ⟨_, _, _, _, _, _, _, _, _, _, _, _, _, _, _, _, _, _, _, _, _, _, _, _, _, _, _, _, _, _, _, _, _, _, _, _, _, _, _, _, _, _, _, _, ⟨i, k + 1, n0, n1 - 1, out ++ [m[k]], _, c0, b0, o0, a1', c1', b1, o1 + 7, by omega, by omega, rfl, rfl, hh0, hh1', hl0, hm0', by simp; omega, o5, HF2⟩, rfl⟩ | exact ⟨_, _, _, _, _, _, _, _, _, _, _, _, _, _, _, _, _, _, _, _, _, _, _, _, _, _, _, _, _, _, _, _, _, _, _, _, _, _, _, _, _, ⟨i, k + 1, n0, n1 - 1, out ++ [m[k]], _, c0, b0, o0, a1', c1', b1, o1 + 7, by omega, by omega, rfl, rfl, hh0, hh1', hl0, hm0', by simp; omega, o5, HF2⟩, rfl⟩ | exact ⟨_, _, _, _, _, _, _, _, _, _, _, _, _, _, _, _, _, _, _, _, _, _, _, _, _, _, _, _, _, _, _, _, _, _, _, _, _, _, _, _, _, _, _, _, _, ⟨i, k + 1, n0, n1 - 1, out ++ [m[k]], _, c0, b0, o0, a1', c1', b1, o1 + 7, by omega, by omega, rfl, rfl, hh0, hh1', hl0, hm0', by simp; omega, o5, HF2⟩, rfl⟩ | exact ⟨_, _, _, _, _, _, _, _, _, _, _, _, _, _, _, _, _, _, _, _, _, _, _, _, _, _, _, _, _, _, _, _, _, _, _, _, _, _, _, _, ⟨i, k + 1, n0, n1 - 1, out ++ [m[k]], _, c0, b0, o0, a1', c1', b1, o1 + 7, by omega, by omega, rfl, rfl, hh0, hh1', hl0, hm0', by simp; omega, o5, HF2⟩, rfl⟩ | exact ⟨_, _, _, _, _, _, _, _, _, _, _, _, _, _, _, _, _, _, _, _, _, _, _, _, _, _, _, _, _, _, _, _, _, _, _, _, _, _, _, _, _, _, _, _, _, _, ⟨i, k + 1, n0, n1 - 1, out ++ [m[k]], _, c0, b0, o0, a1', c1', b1, o1 + 7, by omega, by omega, rfl, rfl, hh0, hh1', hl0, hm0', by simp; omega, o5, HF2⟩, rfl⟩ | exact ⟨_, _, _, _, _, _, _, _, _, _, _, _, _, _, _, _, _, _, _, _, _, _, _, _, _, _, _, _, _, _, _, _, _, _, _, _, _, _, _, ⟨i, k + 1, n0, n1 - 1, out ++ [m[k]], _, c0, b0, o0, a1', c1', b1, o1 + 7, by omega, by omega, rfl, rfl, hh0, hh1', hl0, hm0', by simp; omega, o5, HF2⟩, rfl⟩ | exact ⟨_, _, _, _, _, _, _, _, _, _, _, _, _, _, _, _, _, _, _, _, _, _, _, _, _, _, _, _, _, _, _, _, _, _, _, _, _, _, _, _, _, _, _, _, _, _, _, ⟨i, k + 1, n0, n1 - 1, out ++ [m[k]], _, c0, b0, o0, a1', c1', b1, o1 + 7, by omega, by omega, rfl, rfl, hh0, hh1', hl0, hm0', by simp; omega, o5, HF2⟩, rfl⟩
        case measure => simp [lenQ]; omega
    · have hend : n0 = 0 ∨ n1 = 0 := by omega
      have hdl : (l.drop i).length = n0 := by rw [List.length_drop]; omega
      have hdm : (m.drop k).length = n1 := by rw [List.length_drop]; omega
      obtain ⟨a5, c5, b5, o5, hv5, hh5, hl5⟩ := oj.list
      have hB := oj.b
      subst hv5
      have hzw := hB.size
      have HCAT : Hid (out ++ ((l.drop i) ++ ((m.drop k) ++ [])) = putF l m) := by
        show _ = _
        rw [HF.out, List.append_nil]
        rcases hend with h | h
        · have : l.drop i = [] := List.length_eq_zero_iff.1 (by omega)
          rw [this, putF_nil]; rfl
        · have : m.drop k = [] := List.length_eq_zero_iff.1 (by omega)
          rw [this, putF_nil2, List.append_nil]
      have hlen5 : (putF l m).length ≤ 4294967296 := by have h1 := wtF_len (putF l m); have h2 := HPW.out; omega
      obtain ⟨gs, hgs⟩ : ∃ gs : List Seg, gs = [⟨a5, out, c5, b5, o5⟩, ⟨a0, l.drop i, c0, b0, o0⟩, ⟨a1, m.drop k, c1, b1, o1⟩] := ⟨_, rfl⟩
      have hcat : catL gs = putF l m := by rw [hgs, ← HCAT.out]; rfl
      have nX := heap_alloc_new wr (.cells #[.slice a5 out.length c5, .slice a0 n0 c0, .slice a1 n1 c1] 22)
      have bX : Below wr.heap.size wr (wr.alloc (.cells #[.slice a5 out.length c5, .slice a0 n0 c0, .slice a1 n1 c1] 22)) := (Below.refl _ _).alloc (Nat.le_refl _) _
      have zX := alloc_size wr (.cells #[.slice a5 out.length c5, .slice a0 n0 c0, .slice a1 n1 c1] 22)
      have BX := hB.trans (bX.mono hzw)
      have CC := concat_any gs (Tw S w wr) wr.heap.size 0 3 (wr.alloc (.cells #[.slice a5 out.length c5, .slice a0 n0 c0, .slice a1 n1 c1] 22)) (fun i' hi' => by
        subst hgs
        have hi3 : i' < 3 := by simpa using hi'
        rw [cell_of_block nX]
        rcases i' with _ | _ | _ | i'
        · rfl
        · show some _ = some (Value.slice a0 (l.drop i).length c0); rw [hdl]; rfl
        · show some _ = some (Value.slice a1 (m.drop k).length c1); rw [hdm]; rfl
        · omega) (by omega) (by rw [hgs]; simp) (fun g hg => by
        rw [hgs] at hg
        have kb3 : ∀ b, Tw S w wr b → (wr.alloc (.cells #[.slice a5 out.length c5, .slice a0 n0 c0, .slice a1 n1 c1] 22)).heap[b]? = wr.heap[b]? := fun b hb => bX.block b (hb.elim (fun h => (kb.out wr hB).2 b h) (fun h => h.2))
        rcases List.mem_cons.1 hg with rfl | hg
        · exact ⟨hh5, liesF_keep kb3 (fun _ h => h) hl5⟩
        rcases List.mem_cons.1 hg with rfl | hg
        · exact ⟨by show Headed a0 (l.drop i).length c0 b0 o0; rw [hdl]; exact hh0, liesF_keep (kb.out _ BX).1 (fun _ h => .inl h) hl0⟩
        · rw [List.mem_singleton] at hg
          subst hg
          exact ⟨by show Headed a1 (m.drop k).length c1 b1 o1; rw [hdm]; exact hh1, liesF_keep (kb.out _ BX).1 (fun _ h => .inl h) hm0⟩) (fun b hb => by
        rcases hb with h | h
        · exact (kb.out _ BX).2 b h
        · have := h.2; omega) (by rw [hcat]; exact hlen5)
      have hgl : gs.length = 3 := by rw [hgs]; rfl
      rw [hcat, hgl] at CC
      have HCC := hmk CC
      have y3 : ¬ ((0 : Int) < n0 ∧ (0 : Int) < n1) := by omega
      clear CC nX hl5 hl0 hm0 oj hcat hgs hgl
      have FINI : True := trivial
      rcases Nat.eq_zero_or_pos n0 with hz0 | hz0
      all_goals first
        | (have y4 : ¬ (0 : Int) < n0 := by omega)
        | (have y4 : (0 : Int) < n0 := by omega)
      all_goals (try have y5 : ¬ (0 : Int) < n1 := by omega)
      all_goals (try have y6 : decide (0 < n0) = false := decide_eq_false (by omega))
      all_goals (try have y6 : decide (0 < n0) = true := decide_eq_true (by omega))
      all_goals (try have y7 : decide (0 < n1) = false := decide_eq_false (by omega))
      all_goals clear hz0 hend hdl hdm
      all_goals
        go_wp2_with fail
        refine HCC.out.mono ?_
        rintro e w6 ⟨a6, c6, b6, o6, rfl, hh6, hl6, B6⟩
        have BB := BX.trans (B6.mono BX.size)
        have hwp : wtF (putF l m) ≤ 4294967294 := by have := HPW.out; omega
        have CP := hmk (copiedW_any (putF l m) (fun x => Tw S w wr x ∨ New (wr.alloc (.cells #[.slice a5 out.length c5, .slice a0 n0 c0, .slice a1 n1 c1] 22)) w6 x) a6 c6 b6 o6 w6 hh6 hl6 (fun b hb => by
          have hb6 := B6.size
          rcases hb with (h | h) | h
          · exact (kb.out _ BB).2 b h
          · have := h.2; omega
          · exact h.2) hwp (HTB.out.below BB HTB.out.z) HOK.out (fun x hx => by
          have hx2 := putF_mem _ l m (Nat.le_refl _) x hx
          exact hx2.elim (fun h => ⟨Nat.le_trans (Lf.wt_path h).1 hwl, Nat.le_trans (Lf.wt_path h).2 hwl⟩) (fun h => ⟨Nat.le_trans (Lf.wt_path h).1 hwm, Nat.le_trans (Lf.wt_path h).2 hwm⟩)))
        clear HCC hl6
        go_wp2_with fail
        refine CP.out.mono ?_
        rintro e w7 ⟨a7, c7, b7, o7, rfl, hh7, hl7, B7⟩
        have HL7 := hmk hl7
        have hz6 := B6.size
        have hz7 := B7.size
        have hzB := BX.size
        clear CP hl7
        go_wp2_with fail
        go_ret
        exact ⟨a7, c7, b7, o7, rfl, hh7, liesF_keep (fun _ _ => rfl) (fun y hy => by
          rcases hy with ((h | h) | h) | h
          · exact .inl h
          · exact .inr ⟨h.1, by have h8 := h.2; omega⟩
          · exact .inr ⟨by have h8 := h.1; omega, by have h8 := h.2; omega⟩
          · exact .inr ⟨by have h8 := h.1; omega, h.2⟩) HL7.out, BB.trans (B7.mono BB.size)⟩
end Go.Proofs.YtfekgeaopchilaaGreatDoor
