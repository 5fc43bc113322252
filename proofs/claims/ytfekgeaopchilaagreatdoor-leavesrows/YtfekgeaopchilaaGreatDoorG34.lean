/- joined: LefF LefS -/
import Derived.Test.YtfekgeaopchilaaGreatDoorG33
/- leaves.copied. -/
set_option linter.unusedSimpArgs false
set_option linter.unusedVariables false
namespace Go.Proofs.YtfekgeaopchilaaGreatDoor
open Go.RowKit Go.Lib
theorem step_outF {ops : Array Oper} {o : Oper} {a : Act} {K' : Act → World → Prop} {Q : Exit → Act → World → Prop} {D : Prop} (hgd : o.guard = none) (s x : Operand)
    (ho : o.op = .call { callee := .builtin .append, args := #[s, x], argTypes := #[22, 22] })
    {w W : World} {S T : Nat → Prop} {l : List Lf} (v : Value) {y : Lf} {cs : List Value} (hs : a.eval s = v) (h : OutF w S l v W) (hS : ∀ b, S b → b < w.heap.size) (hl : Lf.lies W T y cs) (hT : ∀ b, T b → S b ∨ (w.heap.size ≤ b ∧ b < W.heap.size ∧ some b ≠ v.ownBlock))
    (c : Nat) (hx : a.eval x = .slice (some ⟨W.heap.size, 0, none⟩) 1 c) (hlen : l.length ≤ 4294967296)
    (k : ∀ g cap w', OutF w S (l ++ [y]) (.slice (some ⟨g, 0, none⟩) (l.length + 1) cap) w' → (W.alloc (.cells cs.toArray 50)).grownBy w' v.ownBlock → K' (a.put o.dst (.slice (some ⟨g, 0, none⟩) (l.length + 1) cap)) w') :
    if Region.wanted o (yielded ops a.tmps) = true then Oper.wp Tryz.prog o a (W.alloc (.cells cs.toArray 50)) K' Q else D := by
  obtain ⟨i0, h0, h1, h2, h3⟩ := infoF'
  obtain ⟨SP, Sx, o1, e1, hx1, k1⟩ := h.step hS hl hT c
  refine step_push keepF hgd s x 22 ho 0 i0 _ 112 Tryz.underlying22 h0 h1 h2 h3 rfl (by decide) (by decide) v y hs o1 W.heap.size c (0, 0) hx (heap_alloc_new W _) (Lf.seven hl).1 (Lf.seven hl).2 e1 hx1 hlen (Nat.zero_le _) ?_
  intro g cap w' o' gr e
  exact k g cap w' (k1 g cap w' o' gr e) gr
theorem OutF.lt {w W : World} {S : Nat → Prop} {l : List Lf} {v : Value} (h : OutF w S l v W) {r : Nat} (hr : v.ownBlock = some r) : r < W.heap.size := by
  obtain ⟨SP, o, hs⟩ := h.o
  exact (o.lt hr).2
theorem clnV_ok {v : V} (h : okV v = true) : clnV v = v := by rw [clnV, if_pos h]
set_option maxHeartbeats 4000000 in
set_option maxRecDepth 100000 in
theorem copied_any (l : List Lf) (S : Nat → Prop) (al : Option Addr) (cl bl ol : Nat) (w : World) (hal : Headed al l.length cl bl ol) (hl : liesF w S l bl ol) (hS : ∀ b, S b → b < w.heap.size) (hwt : wtF l ≤ 2147483647) (tb : Tb w) (hok : ∀ x ∈ l, pathB x.1 = true ∧ okV x.2 = true) :
    Calls Tryz.prog 34 #[.slice al l.length cl] w (TfPost l S w) := by
  have HL := hmk hl
  have HOK := hmk hok
  have HTB := hmk tb
  have hlm := wtF_len l
  clear hl hok tb
  go_enter Tryz.func34, Tryz.ntmps34
  go_wp2_with fail
  go_loopw [3, 8] (fun e3 e wr => ∃ j : Nat, j ≤ l.length ∧ e = .int .i64 (j : Int) ∧ OutF w S (l.take j) e3 wr) (fun _ e _ => l.length - (RowKit.intOf e).toNat)
  case atStart => exact ⟨0, by omega, rfl, by simpa using OutF.nil _ _⟩
  case round =>
    obtain ⟨j, hj, rfl, oj⟩ := hrel
    by_cases hjl : j < l.length
    case neg =>
      obtain rfl : j = l.length := by omega
      have y1 : ¬ (l.length : Int) < l.length := by omega
      rw [List.take_length] at oj
      obtain ⟨a, c, b, o, rfl, hd, hls⟩ := oj.list
      have HB := hmk oj.b
      have HLS := hmk hls
      clear oj hls
      go_wp2_with fail
      go_ret
      exact ⟨a, c, b, o, rfl, hd, HLS.out, HB.out⟩
    have y1 : (j : Int) < l.length := by omega
    obtain ⟨hSb, cs, hrow, v, is, rfl, ⟨ap, cp, bp, op, rfl, hh, hlp⟩, hv⟩ := HL.out j hjl
    obtain rfl : al = some ⟨bl, ol, none⟩ := hal.at_.resolve_left (by omega)
    have kb : Hid (∀ W, Below w.heap.size w W → (∀ b, S b → W.heap[b]? = w.heap[b]?) ∧ (∀ b, S b → b < W.heap.size)) := fun W hb => ⟨fun b h => hb.block b (hS b h), fun b h => Nat.lt_of_lt_of_le (hS b h) hb.size⟩
    have hwj := Lf.wt_path (List.getElem_mem hjl)
    have HTP : Hid (l.take (j + 1) = l.take j ++ [((l[j]).1, (l[j]).2)]) := by show _ = _; rw [List.take_succ_eq_append_getElem hjl]
    obtain ⟨hpb, hov⟩ := HOK.out l[j] (List.getElem_mem hjl)
    generalize (l[j]).1 = p at *
    generalize (l[j]).2 = x at *
    have C39 : Hid (∀ W, Below w.heap.size w W → Calls Tryz.prog 39 #[.slice ap p.length cp] W (CyPost p W)) := fun W hb => by
      have h := copy_any p S ap cp bp op W hh (liesP_keep (kb.out W hb).1 (fun _ h => h) hlp) (kb.out W hb).2 (by omega)
      rw [anP_same hpb] at h
      exact h
    have C32 : Hid (∀ W, Below w.heap.size w W → Calls Tryz.prog 32 #[.agg is.toArray] W (AnPost x W)) := fun W hb => by
      have h := clone_any x false S is W (HTB.out.below hb HTB.out.z) (V.lies_keep (fun h => h) (kb.out W hb).1 (fun _ h => h) _ hv) (kb.out W hb).2 (by omega)
      rw [clnV_ok hov] at h
      exact h
    obtain ⟨vk, vb, vi, vs, val, vnl, vcl, vam, vnm, vcm, rfl⟩ := V.ten hv
    obtain ⟨q, q0, q1, q2, q3, q4, q5⟩ := row7 (hrow.keep ((kb.out wr oj.b).1 _ hSb))
    have HBX : Hid ((wr.alloc (.cells #[.slice ap p.length cp, .int .i64 vk, .bool vb, .int .i64 vi, .string vs, .slice val vnl vcl, .slice vam vnm vcm] 50)).heap[wr.heap.size]? = some (.cells #[.slice ap p.length cp, .int .i64 vk, .bool vb, .int .i64 vi, .string vs, .slice val vnl vcl, .slice vam vnm vcm] 50 (0, 0))) := heap_alloc_new wr _
    have ba : Below wr.heap.size wr (wr.alloc (.cells #[.slice ap p.length cp, .int .i64 vk, .bool vb, .int .i64 vi, .string vs, .slice val vnl vcl, .slice vam vnm vcm] 50)) := (Below.refl _ _).alloc (Nat.le_refl _) _
    have oa := oj.below ba
    have hown : ∀ r, u3.ownBlock = some r → r < wr.heap.size := fun r e => oj.lt e
    have hll : (l.take j).length = j := by simp; omega
    have hza := alloc_size wr (.cells #[.slice ap p.length cp, .int .i64 vk, .bool vb, .int .i64 vi, .string vs, .slice val vnl vcl, .slice vam vnm vcm] 50)
    clear hrow hlp hv oj ba
    go_wp2_with fail
    clear q q0 q1 q2 q3 q4 q5
    generalize wr.alloc (.cells #[.slice ap p.length cp, .int .i64 vk, .bool vb, .int .i64 vi, .string vs, .slice val vnl vcl, .slice vam vnm vcm] 50) = wa at *
    have BD : Hid (Below wa.heap.size wa wa.drew) := (Below.refl _ _).drew
    have NB : Hid (∀ W, Below wa.heap.size wa W → W.heap[wr.heap.size]? = some (.cells #[.slice ap p.length cp, .int .i64 vk, .bool vb, .int .i64 vi, .string vs, .slice val vnl vcl, .slice vam vnm vcm] 50 (0, 0))) := fun W hb => (hb.block _ (by omega)).trans HBX.out
    refine wp_region_held_drew (S := fun W => W.heap[wr.heap.size]? = some (.cells #[.slice ap p.length cp, .int .i64 vk, .bool vb, .int .i64 vi, .string vs, .slice val vnl vcl, .slice vam vnm vcm] 50 (0, 0))) (by kernel_rfl) (NB.out _ BD.out) (fun hHeld => ?_)
    (refine wpAnyH_take (i := 0) (v := ?_) rfl (by kernel_rfl) (by kernel_rfl) (by kernel_rfl) (fun _ _ _ h => h) (Or.inl ⟨by kernel_rfl, ?_⟩) (by assumption) ?_; rotate_left 1; (intro W0 hSw; (try dsimp only at hSw); go_simp; (try with_reducible rfl)); (try simp only [Act.put, List.setIfInBounds_toArray, List.set_cons_zero, List.set_cons_succ]))
    (refine wpAnyH_take (i := 1) (v := ?_) rfl (by kernel_rfl) (by kernel_rfl) (by kernel_rfl) (fun _ _ _ h => h) (Or.inl ⟨by kernel_rfl, ?_⟩) (by assumption) ?_; rotate_left 1; (intro W0 hSw; (try dsimp only at hSw); go_simp; (try with_reducible rfl)); (try simp only [Act.put, List.setIfInBounds_toArray, List.set_cons_zero, List.set_cons_succ]))
    (refine wpAnyH_take (i := 2) (v := ?_) rfl (by kernel_rfl) (by kernel_rfl) (by kernel_rfl) (fun _ _ _ h => h) (Or.inl ⟨by kernel_rfl, ?_⟩) (by assumption) ?_; rotate_left 1; (intro W0 hSw; have z0 : W0.cell? ⟨wr.heap.size, 0, none⟩ = some (.slice ap p.length cp) := by { rw [cell_of_block hSw]; rfl }; go_simp; (try with_reducible rfl)); (try simp only [Act.put, List.setIfInBounds_toArray, List.set_cons_zero, List.set_cons_succ]))
    (refine wpAnyH_take (i := 4) (v := ?_) rfl (by kernel_rfl) (by kernel_rfl) (by kernel_rfl) (fun _ _ _ h => h) (Or.inl ⟨by kernel_rfl, ?_⟩) (by assumption) ?_; rotate_left 1; (intro W0 hSw; (try dsimp only at hSw); go_simp; (try with_reducible rfl)); (try simp only [Act.put, List.setIfInBounds_toArray, List.set_cons_zero, List.set_cons_succ]))
    (refine wpAnyH_take (i := 5) (v := ?_) rfl (by kernel_rfl) (by kernel_rfl) (by kernel_rfl) (fun _ _ _ h => h) (Or.inl ⟨by kernel_rfl, ?_⟩) (by assumption) ?_; rotate_left 1; (intro W0 hSw; have z1 : W0.cell? ⟨wr.heap.size, 1, none⟩ = some (.int .i64 vk) := by { rw [cell_of_block hSw]; rfl }; have z2 : W0.cell? ⟨wr.heap.size, 2, none⟩ = some (.bool vb) := by { rw [cell_of_block hSw]; rfl }; have z3 : W0.cell? ⟨wr.heap.size, 3, none⟩ = some (.int .i64 vi) := by { rw [cell_of_block hSw]; rfl }; have z4 : W0.cell? ⟨wr.heap.size, 4, none⟩ = some (.string vs) := by { rw [cell_of_block hSw]; rfl }; have z5 : W0.cell? ⟨wr.heap.size, 5, none⟩ = some (.slice val vnl vcl) := by { rw [cell_of_block hSw]; rfl }; have z6 : W0.cell? ⟨wr.heap.size, 6, none⟩ = some (.slice vam vnm vcm) := by { rw [cell_of_block hSw]; rfl }; go_simp; (try with_reducible rfl)); (try simp only [Act.put, List.setIfInBounds_toArray, List.set_cons_zero, List.set_cons_succ]))
    refine wpAnyH_ready (rs := [3]) (by kernel_rfl) (by simp) ?_
    refine AllReadyH.cons rfl (fun K hK => ?_) AllReadyH.nil
    go_simp
    have od := oa.below BD.out
    refine (C39.out _ od.b).mono ?_
    rintro e w3 ⟨g3, rfl, l3, b3⟩
    have B3 : Below wa.heap.size wa w3 := BD.out.trans (b3.mono BD.out.size)
    have o3 := od.below b3
    go_wp2_with fail
    refine hK.out _ _ (NB.out _ B3) (fun hHeld => ?_)
    clear hK K
    (try simp only [Act.put, List.setIfInBounds_toArray, List.set_cons_zero, List.set_cons_succ])
    refine wpAnyH_ready (rs := [6]) (by kernel_rfl) (by simp) ?_
    refine AllReadyH.cons rfl (fun K hK => ?_) AllReadyH.nil
    go_simp
    refine (C32.out _ o3.b).mono ?_
    rintro e w4 ⟨csu, rfl, l4, b4⟩
    obtain ⟨uk, ub, ui, us, ual, unl, ucl, uam, unm, ucm, rfl⟩ := V.ten l4
    have B4 : Below wa.heap.size wa w4 := B3.trans (b4.mono B3.size)
    have o4 := o3.below b4
    go_wp2_with fail
    refine hK.out _ _ (NB.out _ B4) (fun hHeld => ?_)
    clear hK K
    (try simp only [Act.put, List.setIfInBounds_toArray, List.set_cons_zero, List.set_cons_succ])
    (refine wpAnyH_take (i := 7) (v := ?_) rfl (by kernel_rfl) (by kernel_rfl) (by kernel_rfl) (fun _ _ _ h => h) (Or.inl ⟨by kernel_rfl, ?_⟩) (by assumption) ?_; rotate_left 1; (intro W0 hSw; (try dsimp only at hSw); go_simp; (try with_reducible rfl)); (try simp only [Act.put, List.setIfInBounds_toArray, List.set_cons_zero, List.set_cons_succ]))
    refine wpAnyH_ready (rs := [8]) (by kernel_rfl) (by simp) ?_
    refine AllReadyH.cons rfl (fun K hK => ?_) AllReadyH.nil
    go_simp
    refine hK.out _ _ (NB.out _ (B4.alloc B4.size _)) (fun hHeld => ?_)
    clear hK K
    (try simp only [Act.put, List.setIfInBounds_toArray, List.set_cons_zero, List.set_cons_succ])
    have hl4 : Lf.lies w4 (fun b => wa.heap.size ≤ b ∧ b < w4.heap.size) (p, x) [.slice (some ⟨g3, 0, none⟩) p.length p.length, .int .i64 uk, .bool ub, .int .i64 ui, .string us, .slice ual unl ucl, .slice uam unm ucm] := ⟨_, _, rfl, ⟨_, _, g3, 0, rfl, ⟨Nat.le_refl _, (Nat.le_trans hh.le hh.max), .inr rfl, fun h => by cases h⟩, liesP_keep (fun b hb => b4.block b hb.2) (fun b hb => ⟨Nat.le_trans BD.out.size hb.1, Nat.lt_of_lt_of_le hb.2 b4.size⟩) l3⟩, V.lies_keep (fun h => h) (fun _ _ => rfl) (fun b hb => ⟨Nat.le_trans B3.size hb.1, hb.2⟩) _ l4⟩
    have hT : ∀ b, (wa.heap.size ≤ b ∧ b < w4.heap.size) → S b ∨ (w.heap.size ≤ b ∧ b < w4.heap.size ∧ some b ≠ u3.ownBlock) := fun b hb => .inr ⟨Nat.le_trans oa.b.size hb.1, hb.2, fun e => by have := hown b e.symm; have := hb.1; omega⟩
    refine wpAnyH_ready (rs := [9]) (by kernel_rfl) (by simp) ?_
    refine AllReadyH.cons rfl (fun K hK => ?_) AllReadyH.nil
    refine step_outF rfl (.tmp 12) (.tmp 20) rfl u3 rfl o4 hS hl4 hT 1 rfl (by rw [hll]; omega) ?_
    intro g5 cap w5 o5 gr5
    (try rw [hll] at o5)
    (try rw [hll])
    rw [← HTP.out] at o5
    have nb5 : w5.heap[wr.heap.size]? = some (.cells #[.slice ap p.length cp, .int .i64 vk, .bool vb, .int .i64 vi, .string vs, .slice val vnl vcl, .slice vam vnm vcm] 50 (0, 0)) := (gr5.block _ (by rw [alloc_size]; have := B4.size; omega) (fun e => by have := hown _ e.symm; omega)).trans (NB.out _ (B4.alloc B4.size _))
    refine hK.out _ _ nb5 (fun hHeld => ?_)
    clear hK K
    (try simp only [Act.put, List.setIfInBounds_toArray, List.set_cons_zero, List.set_cons_succ])
    first
      | (refine wpAnyH_take (i := 10) (v := ?_) rfl (by kernel_rfl) (by kernel_rfl) (by kernel_rfl) (fun _ _ _ h => h) (Or.inl ⟨by kernel_rfl, ?_⟩) (by assumption) ?_; rotate_left 1; (intro W0 hSw; (try dsimp only at hSw); go_simp; (try with_reducible rfl)); (try simp only [Act.put, List.setIfInBounds_toArray, List.set_cons_zero, List.set_cons_succ]))
      | (refine wpAnyH_ready (rs := [10]) (by kernel_rfl) (by simp) ?_; refine AllReadyH.cons rfl (fun K hK => ?_) AllReadyH.nil; go_simp; refine hK.out _ _ nb5 (fun hHeld => ?_); clear hK K; (try simp only [Act.put, List.setIfInBounds_toArray, List.set_cons_zero, List.set_cons_succ]))
    refine wpAnyH_done (by kernel_rfl) ?_ _
    (try dsimp only [Act.put, List.getElem_toArray, List.getElem_cons_succ, List.getElem_cons_zero, List.setIfInBounds_toArray, List.set_cons_zero, List.set_cons_succ])
    clear hHeld
    go_wp2_with fail
    go_roundw
    case rel => exact ⟨j + 1, by omega, by go_num, o5⟩
    case measure => simp [RowKit.intOf]; omega
end Go.Proofs.YtfekgeaopchilaaGreatDoor
/- Slices of leaves and of paths. -/
namespace Go.Proofs.YtfekgeaopchilaaGreatDoor
open Go.RowKit Go.Lib
theorem hd_add {a : Option Addr} {n c b o i k t : Nat} (h : Headed a n c b o) (hit : i ≤ t) (htn : t ≤ n) (hc : ¬ c = i) : Headed (a.map (fun x : Addr => x.add (i * k))) (t - i) (c - i) b (o + i * k) := by
  have hle := h.le
  have hmx := h.max
  refine ⟨by omega, by omega, ?_, ?_⟩
  · rcases h.at_ with e | e
    · exact .inl (by omega)
    · exact .inr (by rw [e, Option.map_some, Go.WideShapes.add_plain])
  · intro e
    have e2 : a = none := by simpa using e
    have := h.nil e2
    omega
set_option maxHeartbeats 1000000 in
set_option maxRecDepth 100000 in
theorem slF (a : Option Addr) (n c b o i t : Nat) (h : Headed a n c b o) (hit : i ≤ t) (htn : t ≤ n) : ∃ a' c', (∀ W, (Instr.slice 22 (.slice a n c) (some (.int .i64 (i : Int))) (some (.int .i64 (t : Int))) none).run Tryz.prog W = .ok (.slice a' (t - i) c') W) ∧ Headed a' (t - i) c' b (o + i * 7) := by
  have hle := h.le
  have hmx := h.max
  have h1 : (0 : Int) ≤ i := by omega
  have h2 : (i : Int) ≤ t := by omega
  have h3 : (t : Int) ≤ c := by omega
  by_cases hc : c = i
  · refine ⟨a, 0, fun W => ?_, ⟨by omega, Nat.zero_le _, .inl (by omega), fun _ => rfl⟩⟩
    go_simp
    all_goals (intro h; omega)
  · refine ⟨a.map (fun x : Addr => x.add (i * 7)), c - i, fun W => ?_, hd_add h hit htn hc⟩
    go_simp
set_option maxHeartbeats 1000000 in
set_option maxRecDepth 100000 in
theorem slF1 (a : Option Addr) (n c b o : Nat) (h : Headed a n c b o) (h0 : 0 < n) : ∃ a' c', (∀ W, (Instr.slice 22 (.slice a n c) (some (.int .i64 1)) none none).run Tryz.prog W = .ok (.slice a' (n - 1) c') W) ∧ Headed a' (n - 1) c' b (o + 7) := by
  have hle := h.le
  have hmx := h.max
  have h2 : (1 : Int) ≤ n := by omega
  have h3 : (n : Int) ≤ c := by omega
  by_cases hc : c = 1
  · refine ⟨a, 0, fun W => ?_, ⟨by omega, Nat.zero_le _, .inl (by omega), fun _ => rfl⟩⟩
    obtain rfl : n = 1 := by omega
    subst hc
    go_simp
  · refine ⟨a.map (fun x : Addr => x.add (1 * 7)), c - 1, fun W => ?_, hd_add (k := 7) h (by omega) (Nat.le_refl _) hc⟩
    go_simp
    all_goals (try (first | rfl | omega))
set_option maxHeartbeats 1000000 in
set_option maxRecDepth 100000 in
theorem slP1 (a : Option Addr) (n c b o : Nat) (h : Headed a n c b o) (h0 : 0 < n) : ∃ a' c', (∀ W, (Instr.slice 23 (.slice a n c) (some (.int .i64 1)) none none).run Tryz.prog W = .ok (.slice a' (n - 1) c') W) ∧ Headed a' (n - 1) c' b (o + 1) := by
  have hle := h.le
  have hmx := h.max
  have h2 : (1 : Int) ≤ n := by omega
  have h3 : (n : Int) ≤ c := by omega
  by_cases hc : c = 1
  · refine ⟨a, 0, fun W => ?_, ⟨by omega, Nat.zero_le _, .inl (by omega), fun _ => rfl⟩⟩
    obtain rfl : n = 1 := by omega
    subst hc
    go_simp
  · refine ⟨a.map (fun x : Addr => x.add (1 * 1)), c - 1, fun W => ?_, hd_add (k := 1) h (by omega) (Nat.le_refl _) hc⟩
    go_simp
    all_goals (try (first | rfl | omega))
end Go.Proofs.YtfekgeaopchilaaGreatDoor
