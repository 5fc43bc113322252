import Derived.Test.YthlhkhcbkgbhfaaGreatDoorG26
/- twinPath, twinPaths of the statements of layer 10: rows and keys anew, the items' lists as they are. -/
set_option linter.unusedSimpArgs false
set_option linter.unusedVariables false
namespace Go.Proofs.YthlhkhcbkgbhfaaGreatDoor
open Go.RowKit Go.Lib
section
variable {P : Program}
theorem step_catP {ops : Array Oper} {o : Oper} {a : Act} {w : World} {K' : Act → World → Prop} {Q : Exit → Act → World → Prop} {D : Prop} (hgd : o.guard = none) (s x : Operand) (t : TypeId)
    (ho : o.op = .call { callee := .builtin .append, args := #[s, x], argTypes := #[t, t] })
    (base : Nat) (e : TypeId) (i : TypeInfo) (z : Value) (size bytes : Nat) (ht : P.underlying t = some (.slice e)) (hi : P.info? e = some i) (hz : i.zero = some z)
    (hsize : i.size = size) (hby : i.bytes = bytes) (hzs : z.cells.size = size) (hsz : 0 < size) (hb200 : bytes ≤ 200)
    (v : Value) (n : Nat) (xs : List Value) (hs : a.eval s = v) (hown : w.ownsRow base e size v n xs) (ao : Option Addr) (m c b q : Nat) (hx : a.eval x = .slice ao m c) (hd : Headed ao m c b q) (news : List Value) (hl : news.length = m * size)
    (hnews : ∀ j u, news[j]? = some u → w.cell? ⟨b, q + j, none⟩ = some u) (h1 : ∀ u ∈ news, u.oneCell' = true) (hm : n + m ≤ 2147483647) (hbase : base ≤ w.heap.size)
    (h : ∀ v' w', w'.ownsRow base e size v' (n + m) (xs ++ news) → w.grownBy w' v.ownBlock → K' (a.put o.dst v') w') : if Region.wanted o (yielded ops a.tmps) = true then Oper.wp P o a w K' Q else D := by
  have hw : Region.wanted o (yielded ops a.tmps) = true := by simp [Region.wanted, hgd]
  rw [if_pos hw]
  cases ao with
  | none =>
    have hc := hd.nil rfl
    have hm0 : m = 0 := by have := hd.le; omega
    subst hm0 hc
    have hn0 : news = [] := List.eq_nil_of_length_eq_zero (by simpa using hl)
    subst hn0
    have hrun := run_append_owned_none (P := P) (w := w) base t o.type e i size ht hi v n xs hown
    unfold Oper.wp
    simp [execOp, ho, resolve, invoke, builtin, hs, hx, hrun, Result.andThen]
    exact h _ _ (by simpa using hown) (World.grownBy.refl _ _)
  | some ad =>
    refine wp_append_own w s x t ho base e i z size bytes ht hi hz hsize hby hzs hsz v n xs hs hown ad m c news hx hl ?_ h1 (by simp only [maxLen]; omega) ?_ hbase ?_
    · intro j u hu
      rcases hd.at_ with h0 | h0
      · subst h0
        have hn0 : news = [] := List.eq_nil_of_length_eq_zero (by simpa using hl)
        subst hn0
        simp at hu
      · have := Option.some.inj h0
        subst this
        rw [Go.WideShapes.add_plain]
        exact hnews j u hu
    · have := Nat.mul_le_mul (show n + m ≤ 2147483647 by omega) hb200
      omega
    · intro v' w' r1 r2 _
      exact h v' w' r1 r2
end
/-- members, as the flat row of their cells -/
theorem flatM {w : World} {S : Nat → Prop} : ∀ {m : List Mem} {b o : Nat}, liesM false w S m b o → ∃ xs : List Value, xs.length = m.length * 7 ∧ (∀ j u, xs[j]? = some u → w.cell? ⟨b, o + j, none⟩ = some u) ∧ (∀ u ∈ xs, u.oneCell' = true) ∧
    ∀ (W : World) (T : Nat → Prop) (b' o' : Nat), (∀ x, S x → W.heap[x]? = w.heap[x]?) → (∀ x, S x → T x) → T b' → (∀ j u, xs[j]? = some u → W.cell? ⟨b', o' + j, none⟩ = some u) → liesM false W T m b' o'
  | [], b, o, _ => ⟨[], rfl, by simp, by simp, fun W T b' o' _ _ _ _ => by simp [liesM]⟩
  | (key, x) :: t, b, o, hl => by
    rw [liesM] at hl
    obtain ⟨hS, ⟨hk, cs, hr, hx⟩, ht⟩ := hl
    obtain ⟨ys, h1, h2, h3, h4⟩ := flatM ht
    obtain ⟨ek, eb, ei, es, eal, enl, ecl, eam, enm, ecm, rfl⟩ := V.ten hx
    refine ⟨[.string key, .int .i64 ek, .bool eb, .int .i64 ei, .string es, .slice eal enl ecl, .slice eam enm ecm] ++ ys, by simp [h1]; omega, fun j u hu => ?_, fun u hu => ?_, fun W T b' o' hW hT hb' hc => ?_⟩
    · by_cases hj : j < 7
      · rw [List.getElem?_append_left (by simpa using hj)] at hu
        exact hr j u hu
      · rw [List.getElem?_append_right (by simp; omega)] at hu
        have := h2 (j - 7) u (by simpa using hu)
        rw [show o + 7 + (j - 7) = o + j by omega] at this
        exact this
    · rcases List.mem_append.1 hu with hu | hu
      · simp only [List.mem_cons, List.not_mem_nil, or_false] at hu
        rcases hu with rfl | rfl | rfl | rfl | rfl | rfl | rfl <;> rfl
      · exact h3 u hu
    · rw [liesM]
      refine ⟨hb', ⟨hk, _, fun q u hu => hc q u ?_, V.lies_keep (fun h => h) hW hT _ hx⟩, h4 W T b' (o' + 7) hW hT hb' fun j u hu => ?_⟩
      · have hq : q < 7 := (List.getElem?_eq_some_iff.1 hu).1
        rw [List.getElem?_append_left (by simpa using hq)]
        exact hu
      · have := hc (7 + j) u (by rw [List.getElem?_append_right (by simp)]; simpa using hu)
        rw [show o' + (7 + j) = o' + 7 + j by omega] at this
        exact this
theorem own_keys {W : World} {T : Nat → Prop} {m : List Mem} {xs : List Value} {B : Nat} {v : Value} (h : W.ownsRow B 72 7 v m.length xs) (hT : ∀ g, B ≤ g → g < W.heap.size → T g) (hF : ∀ (b' o' : Nat), T b' → (∀ j u, xs[j]? = some u → W.cell? ⟨b', o' + j, none⟩ = some u) → liesM false W T m b' o') : ∃ ka kc kb ko, v = .slice ka m.length kc ∧ Headed ka m.length kc kb ko ∧ liesM false W T m kb ko := by
  obtain ⟨hl, ⟨rfl, h0⟩ | ⟨g, cap, cur, rfl, hb0, hb, h1, h2, _, hp⟩⟩ := h
  · have : m = [] := List.length_eq_zero_iff.1 h0
    subst this
    exact ⟨none, 0, 0, 0, rfl, ⟨Nat.le_refl _, by simp [maxLen], .inl rfl, fun _ => rfl⟩, by simp [liesM]⟩
  · refine ⟨some ⟨g, 0, none⟩, cap, g, 0, rfl, ⟨h1, h2, .inr rfl, fun h => by cases h⟩, hF g 0 (hT g hb0 (Array.getElem?_eq_some_iff.1 hb).1) fun j u hu => ?_⟩
    have hj : j < xs.length := (List.getElem?_eq_some_iff.1 hu).1
    rw [Nat.zero_add, cell_of_block hb, ← Array.getElem?_toList, ← hu, ← hp, List.getElem?_take, if_pos (by omega)]
set_option maxHeartbeats 8000000 in
set_option maxRecDepth 100000 in
theorem twq_any (p : List El) (S : Nat → Prop) (ap : Option Addr) (cp bp op : Nat) (w : World) (hap : Headed ap p.length cp bp op) (hp : liesP w S p bp op) (hS : ∀ b, S b → b < w.heap.size) (hwt : wtP p ≤ 2147483647) :
    Calls Tryz.prog 41 #[.slice ap p.length cp] w (TqPost p S w) := by
  have HP := hmk hp
  have HS : Hid (∀ b, S b → b < w.heap.size) := hS
  clear hp
  have hlm := wtP_len p
  obtain ⟨i0, hi0, hz0, hz1, hz2⟩ := info_parts info35
  obtain ⟨i1, hi1, hy0, hy1, hy2⟩ := info_parts info44
  have hI : Hid (Tryz.prog.info? 66 = some i0 ∧ i0.zero = some (.agg #[.int .i64 0, .string ⟨#[]⟩, .slice none 0 0, .int .i64 0, .bool false, .int .i64 0, .string ⟨#[]⟩, .slice none 0 0, .slice none 0 0]) ∧ i0.size = 9 ∧ i0.bytes = 136) := ⟨hi0, hz0, hz1, hz2⟩
  have hJ : Hid (Tryz.prog.info? 72 = some i1 ∧ i1.zero = some (.agg #[.string ⟨#[]⟩, .int .i64 0, .bool false, .int .i64 0, .string ⟨#[]⟩, .slice none 0 0, .slice none 0 0]) ∧ i1.size = 7 ∧ i1.bytes = 104) := ⟨hi1, hy0, hy1, hy2⟩
  clear hi0 hz0 hz1 hz2 hi1 hy0 hy1 hy2
  go_enter Tryz.func41, Tryz.ntmps41
  go_wp2_with fail
  go_loopw [3, 4] (fun e3 e wr => ∃ (j : Nat) (pv : Value) (SP : Nat → Prop), j ≤ p.length ∧ e = .int .i64 (j : Int) ∧ e3 = pv ∧ Below w.heap.size w wr ∧ OwnP wr 0 SP pv (p.take j) ∧ Hid (∀ r, pv.ownBlock = some r → w.heap.size ≤ r) ∧ Hid (∀ b, SP b → S b ∨ w.heap.size ≤ b)) (fun _ e _ => p.length - (RowKit.intOf e).toNat)
  case atStart => exact ⟨0, _, _, by omega, rfl, rfl, Below.refl _ _, by simpa using OwnR.nil _ _, fun r h => by simp [Value.ownBlock] at h, fun b (h : False) => h.elim⟩
  case round =>
    obtain ⟨j, pv, SP, hj, rfl, rfl, bO, oO, HO, HSP⟩ := hrel
    have hzO := bO.size
    by_cases hjl : j < p.length
    · have y3 : (j : Int) < p.length := by omega
      obtain ⟨hSb, csj, hrow, hlj⟩ := HP.out j hjl
      obtain rfl : ap = some ⟨bp, op, none⟩ := hap.at_.resolve_left (by omega)
      have hwj : (p[j]).wt ≤ 2147483647 := by have := wtP_mem (List.getElem_mem hjl); omega
      have HTP : Hid (p.take (j + 1) = p.take j ++ [p[j]]) := by show _ = _; rw [List.take_succ_eq_append_getElem hjl]
      have hkw : ∀ b, S b → wr.heap[b]? = w.heap[b]? := fun b hb => bO.block b (hS b hb)
      have hlj' := El.lies_keep (S' := S) hkw (fun _ h => h) hlj
      have hrow' := hrow.keep (hkw _ hSb)
      have hllp : (p.take j).length = j := by simp; omega
      rcases hej : p[j] with ⟨k, nm, m, v⟩
      rw [hej] at hwj HTP hlj'
      obtain ⟨am, cm, bm, om, is, rfl, hk, hnm, ham, hm, hv⟩ := hlj'
      dsimp only at hk hnm ham hm hv
      obtain ⟨xk, xb, xi, xs, xal, xnl, xcl, xam, xnm, xcm, rfl⟩ := V.ten hv
      have HV := hmk hv
      obtain ⟨fs, hf1, hf2, hf3, hf4⟩ := flatM hm
      have HF2 := hmk hf2
      have HF3 := hmk hf3
      have HF4 := hmk hf4
      have hwm : wtM m ≤ 2147483647 := by unfold El.wt at hwj; dsimp only at hwj; omega
      have hmm := wtM_len m
      have HSw : Hid (∀ b, S b → b < wr.heap.size) := fun b hb => Nat.lt_of_lt_of_le (HS.out b hb) hzO
      have hbpS := HSw.out _ hSb
      have hml0 : Hid (m.length = 0 ∨ bm < wr.heap.size) := by
        show _ ∨ _
        cases m with
        | nil => exact .inl rfl
        | cons y t => rw [liesM] at hm; exact .inr (HSw.out _ hm.1)
      obtain ⟨q0, q1, q2, q3, q4, q5, q6, q7, q8⟩ := row9 hrow'
      have BD : Hid (Below wr.heap.size wr wr.drew) := (Below.refl _ _).drew
      have NB : Hid (∀ W, Below wr.heap.size wr W → W.heap[bp]? = wr.heap[bp]?) := fun W hb => hb.block bp hbpS
      have nb0 : (wr.alloc (.cells #[.int .i64 0, .string ⟨#[]⟩, .slice none 0 0, .int .i64 0, .bool false, .int .i64 0, .string ⟨#[]⟩, .slice none 0 0, .slice none 0 0] 66)).drew.heap[wr.heap.size]? = some (.cells #[.int .i64 0, .string ⟨#[]⟩, .slice none 0 0, .int .i64 0, .bool false, .int .i64 0, .string ⟨#[]⟩, .slice none 0 0, .slice none 0 0] 66 (0, 0)) := heap_alloc_new wr _
      have BA : Hid (Below wr.heap.size wr (wr.alloc (.cells #[.int .i64 0, .string ⟨#[]⟩, .slice none 0 0, .int .i64 0, .bool false, .int .i64 0, .string ⟨#[]⟩, .slice none 0 0, .slice none 0 0] 66)).drew) := ((Below.refl wr.heap.size wr).alloc (Nat.le_refl _) _).drew
      have nbR : (wr.alloc (.cells #[.int .i64 k, .string nm, .slice none 0 0, .int .i64 xk, .bool xb, .int .i64 xi, .string xs, .slice xal xnl xcl, .slice xam xnm xcm] 66)).drew.heap[wr.heap.size]? = some (.cells #[.int .i64 k, .string nm, .slice none 0 0, .int .i64 xk, .bool xb, .int .i64 xi, .string xs, .slice xal xnl xcl, .slice xam xnm xcm] 66 (0, 0)) := heap_alloc_new wr _
      have hz6 : (wr.alloc (.cells #[.int .i64 k, .string nm, .slice none 0 0, .int .i64 xk, .bool xb, .int .i64 xi, .string xs, .slice xal xnl xcl, .slice xam xnm xcm] 66)).drew.heap.size = wr.heap.size + 1 := alloc_size wr _
      have B6 : Hid (Below wr.heap.size wr (wr.alloc (.cells #[.int .i64 k, .string nm, .slice none 0 0, .int .i64 xk, .bool xb, .int .i64 xi, .string xs, .slice xal xnl xcl, .slice xam xnm xcm] 66)).drew) := ((Below.refl wr.heap.size wr).alloc (Nat.le_refl _) _).drew
      clear hrow hlj hrow' hm hv hej hf2 hf3 hf4
      go_wp2_with fail
      refine wp_region_held_drew (S := fun W => W.heap[bp]? = wr.heap[bp]?) (by kernel_rfl) (NB.out _ BD.out) (fun hHeld => ?_)
      (refine wpAnyH_take (i := 0) (v := ?_) rfl (by kernel_rfl) (by kernel_rfl) (by kernel_rfl) (fun _ _ _ h => h) (Or.inl ⟨by kernel_rfl, ?_⟩) (by assumption) ?_; rotate_left 1; (intro W0 hSw; (try dsimp only at hSw); go_simp; (try with_reducible rfl)); (try simp only [Act.put, List.setIfInBounds_toArray, List.set_cons_zero, List.set_cons_succ]))
      (refine wpAnyH_take (i := 1) (v := ?_) rfl (by kernel_rfl) (by kernel_rfl) (by kernel_rfl) (fun _ _ _ h => h) (Or.inl ⟨by kernel_rfl, ?_⟩) (by assumption) ?_; rotate_left 1; (intro W0 hSw; (try dsimp only at hSw); go_simp; (try with_reducible rfl)); (try simp only [Act.put, List.setIfInBounds_toArray, List.set_cons_zero, List.set_cons_succ]))
      (refine wpAnyH_take (i := 2) (v := ?_) rfl (by kernel_rfl) (by kernel_rfl) (by kernel_rfl) (fun _ _ _ h => h) (Or.inl ⟨by kernel_rfl, ?_⟩) (by assumption) ?_; rotate_left 1; (intro W0 hSw; (try dsimp only at hSw); go_simp; (try with_reducible rfl)); (try simp only [Act.put, List.setIfInBounds_toArray, List.set_cons_zero, List.set_cons_succ]))
      (refine wpAnyH_take (i := 3) (v := ?_) rfl (by kernel_rfl) (by kernel_rfl) (by kernel_rfl) (fun _ _ _ h => h) (Or.inl ⟨by kernel_rfl, ?_⟩) (by assumption) ?_; rotate_left 1; (intro W0 hSw; (try dsimp only at hSw); go_simp; (try with_reducible rfl)); (try simp only [Act.put, List.setIfInBounds_toArray, List.set_cons_zero, List.set_cons_succ]))
      (refine wpAnyH_take (i := 4) (v := ?_) rfl (by kernel_rfl) (by kernel_rfl) (by kernel_rfl) (fun _ _ _ h => h) (Or.inl ⟨by kernel_rfl, ?_⟩) (by assumption) ?_; rotate_left 1; (intro W0 hSw; have z0 : W0.cell? ⟨bp, op + j * 9, none⟩ = some (.int .i64 k) := (World.cell?_of_block (w := wr) (a := ⟨bp, op + j * 9, none⟩) hSw).trans q0; go_simp; (try with_reducible rfl)); (try simp only [Act.put, List.setIfInBounds_toArray, List.set_cons_zero, List.set_cons_succ]))
      (refine wpAnyH_take (i := 5) (v := ?_) rfl (by kernel_rfl) (by kernel_rfl) (by kernel_rfl) (fun _ _ _ h => h) (Or.inl ⟨by kernel_rfl, ?_⟩) (by assumption) ?_; rotate_left 1; (intro W0 hSw; (try dsimp only at hSw); go_simp; (try with_reducible rfl)); (try simp only [Act.put, List.setIfInBounds_toArray, List.set_cons_zero, List.set_cons_succ]))
      (refine wpAnyH_take (i := 6) (v := ?_) rfl (by kernel_rfl) (by kernel_rfl) (by kernel_rfl) (fun _ _ _ h => h) (Or.inl ⟨by kernel_rfl, ?_⟩) (by assumption) ?_; rotate_left 1; (intro W0 hSw; (try dsimp only at hSw); go_simp; (try with_reducible rfl)); (try simp only [Act.put, List.setIfInBounds_toArray, List.set_cons_zero, List.set_cons_succ]))
      (refine wpAnyH_take (i := 7) (v := ?_) rfl (by kernel_rfl) (by kernel_rfl) (by kernel_rfl) (fun _ _ _ h => h) (Or.inl ⟨by kernel_rfl, ?_⟩) (by assumption) ?_; rotate_left 1; (intro W0 hSw; (try dsimp only at hSw); go_simp; (try with_reducible rfl)); (try simp only [Act.put, List.setIfInBounds_toArray, List.set_cons_zero, List.set_cons_succ]))
      (refine wpAnyH_take (i := 8) (v := ?_) rfl (by kernel_rfl) (by kernel_rfl) (by kernel_rfl) (fun _ _ _ h => h) (Or.inl ⟨by kernel_rfl, ?_⟩) (by assumption) ?_; rotate_left 1; (intro W0 hSw; (try dsimp only at hSw); go_simp; (try with_reducible rfl)); (try simp only [Act.put, List.setIfInBounds_toArray, List.set_cons_zero, List.set_cons_succ]))
      (refine wpAnyH_take (i := 9) (v := ?_) rfl (by kernel_rfl) (by kernel_rfl) (by kernel_rfl) (fun _ _ _ h => h) (Or.inl ⟨by kernel_rfl, ?_⟩) (by assumption) ?_; rotate_left 1; (intro W0 hSw; have z1 : W0.cell? ⟨bp, op + j * 9 + 1, none⟩ = some (.string nm) := (World.cell?_of_block (w := wr) (a := ⟨bp, op + j * 9 + 1, none⟩) hSw).trans q1; go_simp; (try with_reducible rfl)); (try simp only [Act.put, List.setIfInBounds_toArray, List.set_cons_zero, List.set_cons_succ]))
      (refine wpAnyH_take (i := 10) (v := ?_) rfl (by kernel_rfl) (by kernel_rfl) (by kernel_rfl) (fun _ _ _ h => h) (Or.inl ⟨by kernel_rfl, ?_⟩) (by assumption) ?_; rotate_left 1; (intro W0 hSw; (try dsimp only at hSw); go_simp; (try with_reducible rfl)); (try simp only [Act.put, List.setIfInBounds_toArray, List.set_cons_zero, List.set_cons_succ]))
      (refine wpAnyH_take (i := 11) (v := ?_) rfl (by kernel_rfl) (by kernel_rfl) (by kernel_rfl) (fun _ _ _ h => h) (Or.inl ⟨by kernel_rfl, ?_⟩) (by assumption) ?_; rotate_left 1; (intro W0 hSw; (try dsimp only at hSw); go_simp; (try with_reducible rfl)); (try simp only [Act.put, List.setIfInBounds_toArray, List.set_cons_zero, List.set_cons_succ]))
      (refine wpAnyH_take (i := 12) (v := ?_) rfl (by kernel_rfl) (by kernel_rfl) (by kernel_rfl) (fun _ _ _ h => h) (Or.inl ⟨by kernel_rfl, ?_⟩) (by assumption) ?_; rotate_left 1; (intro W0 hSw; (try dsimp only at hSw); go_simp; (try with_reducible rfl)); (try simp only [Act.put, List.setIfInBounds_toArray, List.set_cons_zero, List.set_cons_succ]))
      (refine wpAnyH_take (i := 13) (v := ?_) rfl (by kernel_rfl) (by kernel_rfl) (by kernel_rfl) (fun _ _ _ h => h) (Or.inl ⟨by kernel_rfl, ?_⟩) (by assumption) ?_; rotate_left 1; (intro W0 hSw; (try dsimp only at hSw); go_simp; (try with_reducible rfl)); (try simp only [Act.put, List.setIfInBounds_toArray, List.set_cons_zero, List.set_cons_succ]))
      (refine wpAnyH_take (i := 14) (v := ?_) rfl (by kernel_rfl) (by kernel_rfl) (by kernel_rfl) (fun _ _ _ h => h) (Or.inl ⟨by kernel_rfl, ?_⟩) (by assumption) ?_; rotate_left 1; (intro W0 hSw; have z3 : W0.cell? ⟨bp, op + j * 9 + 3, none⟩ = some (.int .i64 xk) := (World.cell?_of_block (w := wr) (a := ⟨bp, op + j * 9 + 3, none⟩) hSw).trans q3; have z4 : W0.cell? ⟨bp, op + j * 9 + 4, none⟩ = some (.bool xb) := (World.cell?_of_block (w := wr) (a := ⟨bp, op + j * 9 + 4, none⟩) hSw).trans q4; have z5 : W0.cell? ⟨bp, op + j * 9 + 5, none⟩ = some (.int .i64 xi) := (World.cell?_of_block (w := wr) (a := ⟨bp, op + j * 9 + 5, none⟩) hSw).trans q5; have z6 : W0.cell? ⟨bp, op + j * 9 + 6, none⟩ = some (.string xs) := (World.cell?_of_block (w := wr) (a := ⟨bp, op + j * 9 + 6, none⟩) hSw).trans q6; have z7 : W0.cell? ⟨bp, op + j * 9 + 7, none⟩ = some (.slice xal xnl xcl) := (World.cell?_of_block (w := wr) (a := ⟨bp, op + j * 9 + 7, none⟩) hSw).trans q7; have z8 : W0.cell? ⟨bp, op + j * 9 + 8, none⟩ = some (.slice xam xnm xcm) := (World.cell?_of_block (w := wr) (a := ⟨bp, op + j * 9 + 8, none⟩) hSw).trans q8; go_simp; (try with_reducible rfl)); (try simp only [Act.put, List.setIfInBounds_toArray, List.set_cons_zero, List.set_cons_succ]))
      (refine wpAnyH_take (i := 15) (v := ?_) rfl (by kernel_rfl) (by kernel_rfl) (by kernel_rfl) (fun _ _ _ h => h) (Or.inl ⟨by kernel_rfl, ?_⟩) (by assumption) ?_; rotate_left 1; (intro W0 hSw; (try dsimp only at hSw); go_simp; (try with_reducible rfl)); (try simp only [Act.put, List.setIfInBounds_toArray, List.set_cons_zero, List.set_cons_succ]))
      refine wpAnyH_ready (rs := [16]) (by kernel_rfl) (by simp) ?_
      refine AllReadyH.cons rfl (fun K hK => ?_) AllReadyH.nil
      go_simp
      refine hK.out _ _ (NB.out _ BA.out) (fun hHeld => ?_)
      clear hK K
      (try simp only [Act.put, List.setIfInBounds_toArray, List.set_cons_zero, List.set_cons_succ])
      refine wpAnyH_ready (rs := [17]) (by kernel_rfl) (by simp) ?_
      refine AllReadyH.cons rfl (fun K hK => ?_) AllReadyH.nil
      go_simp
      refine hK.out _ _ (NB.out _ B6.out) (fun hHeld => ?_)
      clear hK K
      (try simp only [Act.put, List.setIfInBounds_toArray, List.set_cons_zero, List.set_cons_succ])
      refine wpAnyH_done (by kernel_rfl) ?_ _
      (try dsimp only [Act.put, List.getElem_toArray, List.getElem_cons_succ, List.getElem_cons_zero, List.setIfInBounds_toArray, List.set_cons_zero, List.set_cons_succ])
      clear hHeld
      generalize (wr.alloc (.cells #[.int .i64 k, .string nm, .slice none 0 0, .int .i64 xk, .bool xb, .int .i64 xi, .string xs, .slice xal xnl xcl, .slice xam xnm xcm] 66)).drew = w6 at *
      clear nb0 BA BD
      have BD6 : Hid (Below w6.heap.size w6 w6.drew) := (Below.refl _ _).drew
      have B6d : Hid (Below wr.heap.size wr w6.drew) := B6.out.drew
      have d2 : w6.drew.cell? ⟨wr.heap.size, 2, none⟩ = some (.slice none 0 0) := by
        show w6.cell? _ = _
        rw [cell_of_block nbR]; rfl
      go_wp2_with fail
      refine wp_region_held_drew (S := fun W => W.heap[bp]? = wr.heap[bp]?) (by kernel_rfl) (NB.out _ B6d.out) (fun hHeld => ?_)
      (refine wpAnyH_take (i := 0) (v := ?_) rfl (by kernel_rfl) (by kernel_rfl) (by kernel_rfl) (fun _ _ _ h => h) (Or.inl ⟨by kernel_rfl, ?_⟩) (by assumption) ?_; rotate_left 1; (intro W0 hSw; (try dsimp only at hSw); go_simp; (try with_reducible rfl)); (try simp only [Act.put, List.setIfInBounds_toArray, List.set_cons_zero, List.set_cons_succ]))
      (refine wpAnyH_take (i := 2) (v := ?_) rfl (by kernel_rfl) (by kernel_rfl) (by kernel_rfl) (fun _ _ _ h => h) (Or.inl ⟨by kernel_rfl, ?_⟩) (by assumption) ?_; rotate_left 1; (intro W0 hSw; (try dsimp only at hSw); go_simp; (try with_reducible rfl)); (try simp only [Act.put, List.setIfInBounds_toArray, List.set_cons_zero, List.set_cons_succ]))
      (refine wpAnyH_take (i := 3) (v := ?_) rfl (by kernel_rfl) (by kernel_rfl) (by kernel_rfl) (fun _ _ _ h => h) (Or.inl ⟨by kernel_rfl, ?_⟩) (by assumption) ?_; rotate_left 1; (intro W0 hSw; (try dsimp only at hSw); go_simp; (try with_reducible rfl)); (try simp only [Act.put, List.setIfInBounds_toArray, List.set_cons_zero, List.set_cons_succ]))
      (refine wpAnyH_take (i := 4) (v := ?_) rfl (by kernel_rfl) (by kernel_rfl) (by kernel_rfl) (fun _ _ _ h => h) (Or.inl ⟨by kernel_rfl, ?_⟩) (by assumption) ?_; rotate_left 1; (intro W0 hSw; (try dsimp only at hSw); go_simp; (try with_reducible rfl)); (try simp only [Act.put, List.setIfInBounds_toArray, List.set_cons_zero, List.set_cons_succ]))
      (refine wpAnyH_take (i := 5) (v := ?_) rfl (by kernel_rfl) (by kernel_rfl) (by kernel_rfl) (fun _ _ _ h => h) (Or.inl ⟨by kernel_rfl, ?_⟩) (by assumption) ?_; rotate_left 1; (intro W0 hSw; (try dsimp only at hSw); go_simp; (try with_reducible rfl)); (try simp only [Act.put, List.setIfInBounds_toArray, List.set_cons_zero, List.set_cons_succ]))
      (refine wpAnyH_take (i := 6) (v := ?_) rfl (by kernel_rfl) (by kernel_rfl) (by kernel_rfl) (fun _ _ _ h => h) (Or.inl ⟨by kernel_rfl, ?_⟩) (by assumption) ?_; rotate_left 1; (intro W0 hSw; have z2 : W0.cell? ⟨bp, op + j * 9 + 2, none⟩ = some (.slice am m.length cm) := (World.cell?_of_block (w := wr) (a := ⟨bp, op + j * 9 + 2, none⟩) hSw).trans q2; go_simp; (try with_reducible rfl)); (try simp only [Act.put, List.setIfInBounds_toArray, List.set_cons_zero, List.set_cons_succ]))
      refine wpAnyH_ready (rs := [1]) (by kernel_rfl) (by simp) ?_
      refine AllReadyH.cons rfl (fun K hK => ?_) AllReadyH.nil
      go_simp
      refine hK.out _ _ (NB.out _ B6d.out) (fun hHeld => ?_)
      clear hK K
      (try simp only [Act.put, List.setIfInBounds_toArray, List.set_cons_zero, List.set_cons_succ])
      have CLK : Hid (∀ j u, fs[j]? = some u → w6.drew.cell? ⟨bm, om + j, none⟩ = some u) := fun j u hu => by
        have h0 : m.length ≠ 0 := fun e => by have := (List.getElem?_eq_some_iff.1 hu).1; omega
        have hb := hml0.out.resolve_left h0
        exact (World.cell?_of_block (w := wr) (a := ⟨bm, om + j, none⟩) (B6d.out.block bm hb)).trans (HF2.out j u hu)
      refine wpAnyH_ready (rs := [7]) (by kernel_rfl) (by simp) ?_
      refine AllReadyH.cons rfl (fun K hK => ?_) AllReadyH.nil
      refine step_catP rfl (.tmp 29) (.tmp 34) 61 rfl w6.drew.heap.size 72 i1 _ 7 104 Tryz.underlying61 hJ.out.1 hJ.out.2.1 hJ.out.2.2.1 hJ.out.2.2.2 rfl (by decide) (by decide) (.slice none 0 0) 0 [] rfl (World.ownsRow_nil _ _ _ _) am m.length cm bm om rfl ham fs hf1 CLK.out HF3.out (by omega) (Nat.le_refl _) ?_
      intro v7 w7 o7 g7
      have hz7 : wr.heap.size + 1 ≤ w7.heap.size := by have := g7.size; have e : w6.drew.heap.size = w6.heap.size := rfl; omega
      have hz6' : w6.drew.heap.size = wr.heap.size + 1 := hz6
      have B7 : Hid (Below wr.heap.size wr w7) := B6d.out.grown g7 (by omega) (fun r e => by simp [Value.ownBlock] at e)
      have nb7 : w7.heap[wr.heap.size]? = some (.cells #[.int .i64 k, .string nm, .slice none 0 0, .int .i64 xk, .bool xb, .int .i64 xi, .string xs, .slice xal xnl xcl, .slice xam xnm xcm] 66 (0, 0)) := (g7.block _ (by omega) (by simp [Value.ownBlock])).trans nbR
      rw [Nat.zero_add, List.nil_append] at o7
      obtain ⟨ka, kc, kb, ko, rfl, hdk, hlk⟩ := own_keys (T := fun b => S b ∨ (wr.heap.size + 1 ≤ b ∧ b < w7.heap.size)) o7 (fun g h1 h2 => .inr ⟨by omega, h2⟩) (fun b' o' hb' hc => HF4.out w7 _ b' o' (fun x hx => B7.out.block x (HSw.out x hx)) (fun x hx => .inl hx) hb' hc)
      have HLK := hmk hlk
      have HDK := hmk hdk
      clear o7 hlk hdk
      refine hK.out _ _ (NB.out _ B7.out) (fun hHeld => ?_)
      clear hK K
      (try simp only [Act.put, List.setIfInBounds_toArray, List.set_cons_zero, List.set_cons_succ])
      (refine wpAnyH_take (i := 8) (v := ?_) rfl (by kernel_rfl) (by kernel_rfl) (by kernel_rfl) (fun _ _ _ h => h) (Or.inl ⟨by kernel_rfl, ?_⟩) (by assumption) ?_; rotate_left 1; (intro W0 hSw; (try dsimp only at hSw); go_simp; (try with_reducible rfl)); (try simp only [Act.put, List.setIfInBounds_toArray, List.set_cons_zero, List.set_cons_succ]))
      have f0 : w7.cell? ⟨wr.heap.size, 0, none⟩ = some (.int .i64 k) := by rw [cell_of_block nb7]; rfl
      have f1 : w7.cell? ⟨wr.heap.size, 1, none⟩ = some (.string nm) := by rw [cell_of_block nb7]; rfl
      have f2 : w7.cell? ⟨wr.heap.size, 2, none⟩ = some (.slice none 0 0) := by rw [cell_of_block nb7]; rfl
      have f3 : w7.cell? ⟨wr.heap.size, 3, none⟩ = some (.int .i64 xk) := by rw [cell_of_block nb7]; rfl
      have f4 : w7.cell? ⟨wr.heap.size, 4, none⟩ = some (.bool xb) := by rw [cell_of_block nb7]; rfl
      have f5 : w7.cell? ⟨wr.heap.size, 5, none⟩ = some (.int .i64 xi) := by rw [cell_of_block nb7]; rfl
      have f6 : w7.cell? ⟨wr.heap.size, 6, none⟩ = some (.string xs) := by rw [cell_of_block nb7]; rfl
      have f7 : w7.cell? ⟨wr.heap.size, 7, none⟩ = some (.slice xal xnl xcl) := by rw [cell_of_block nb7]; rfl
      have f8 : w7.cell? ⟨wr.heap.size, 8, none⟩ = some (.slice xam xnm xcm) := by rw [cell_of_block nb7]; rfl
      have kf : ∀ ii, w7.frozen? ⟨wr.heap.size, ii, none⟩ = false := frozen_of_block nb7
      have gS : w7.grownBy (w7.setCell ⟨wr.heap.size, 2, none⟩ (.slice ka m.length kc)) (some wr.heap.size) := grown_set (World.grownBy.refl _ _) _ _
      have nb8 : (w7.setCell ⟨wr.heap.size, 2, none⟩ (.slice ka m.length kc)).heap[wr.heap.size]? = some (.cells #[.int .i64 k, .string nm, .slice ka m.length kc, .int .i64 xk, .bool xb, .int .i64 xi, .string xs, .slice xal xnl xcl, .slice xam xnm xcm] 66 (0, 0)) := blk_set nb7 2 (.slice ka m.length kc) rfl
      have hz8 : (w7.setCell ⟨wr.heap.size, 2, none⟩ (.slice ka m.length kc)).heap.size = w7.heap.size := by simp only [size_set1]
      have B8 : Hid (Below wr.heap.size wr (w7.setCell ⟨wr.heap.size, 2, none⟩ (.slice ka m.length kc))) := B7.out.grown gS (by omega) (fun r e => by cases e; omega)
      have HLE : Hid (El.lies (w7.setCell ⟨wr.heap.size, 2, none⟩ (.slice ka m.length kc)) (fun b => S b ∨ (wr.heap.size + 1 ≤ b ∧ b < w7.heap.size)) ⟨k, nm, m, v⟩ [.int .i64 k, .string nm, .slice ka m.length kc, .int .i64 xk, .bool xb, .int .i64 xi, .string xs, .slice xal xnl xcl, .slice xam xnm xcm]) :=
        ⟨ka, kc, kb, ko, _, rfl, hk, hnm, HDK.out, liesM_keep (fun h => h) (fun x hx => gS.block x (hx.elim (fun h => by have := HSw.out x h; omega) (fun h => h.2)) (fun e => by have h9 := Option.some.inj e; exact hx.elim (fun h => by have := HSw.out x h; omega) (fun h => by have := h.1; omega))) (fun _ h => h) _ HLK.out, V.lies_keep (fun h => h) (fun x hx => B8.out.block x (HSw.out x hx)) (fun x hx => .inl hx) _ HV.out⟩
      refine wpAnyH_ready (rs := [9]) (by kernel_rfl) (by simp) ?_
      refine AllReadyH.cons rfl (fun K hK => ?_) AllReadyH.nil
      go_simp
      refine hK.out _ _ (NB.out _ B8.out) (fun hHeld => ?_)
      clear hK K
      (try simp only [Act.put, List.setIfInBounds_toArray, List.set_cons_zero, List.set_cons_succ])
      refine wpAnyH_done (by kernel_rfl) ?_ _
      (try dsimp only [Act.put, List.getElem_toArray, List.getElem_cons_succ, List.getElem_cons_zero, List.setIfInBounds_toArray, List.set_cons_zero, List.set_cons_succ])
      clear hHeld f0 f1 f2 f3 f4 f5 f6 f7 f8 kf d2
      generalize (w7.setCell ⟨wr.heap.size, 2, none⟩ (.slice ka m.length kc)) = w8 at *
      have hz8a : w7.heap.size ≤ w8.heap.size := by omega
      have hz8b : w8.heap.size ≤ w7.heap.size := by omega
      clear hz8
      have p8 : OwnP w8 0 SP u3 (p.take j) := oO.below keepP B8.out
      have hownP : ∀ r, u3.ownBlock = some r → w.heap.size ≤ r ∧ r < wr.heap.size := fun r hr => ⟨HO.out r hr, (oO.lt hr).2⟩
      have HKp : Hid (∀ b, (S b ∨ (wr.heap.size + 1 ≤ b ∧ b < w7.heap.size)) → 0 ≤ b ∧ b < w8.heap.size ∧ some b ≠ u3.ownBlock) := fun b hb => by
        rcases hb with hb | hb
        · have h7 := HSw.out b hb
          have h8 := HS.out b hb
          exact ⟨Nat.zero_le _, by omega, fun e => by have := (hownP b e.symm).1; omega⟩
        · exact ⟨Nat.zero_le _, by omega, fun e => by have := (hownP b e.symm).2; omega⟩
      have HP8 := hmk p8
      have b0 : w8.cell? ⟨wr.heap.size, 0, none⟩ = some (.int .i64 k) := by rw [cell_of_block nb8]; rfl
      have b1 : w8.cell? ⟨wr.heap.size, 1, none⟩ = some (.string nm) := by rw [cell_of_block nb8]; rfl
      have b2 : w8.cell? ⟨wr.heap.size, 2, none⟩ = some (.slice ka m.length kc) := by rw [cell_of_block nb8]; rfl
      have b3 : w8.cell? ⟨wr.heap.size, 3, none⟩ = some (.int .i64 xk) := by rw [cell_of_block nb8]; rfl
      have b4 : w8.cell? ⟨wr.heap.size, 4, none⟩ = some (.bool xb) := by rw [cell_of_block nb8]; rfl
      have b5 : w8.cell? ⟨wr.heap.size, 5, none⟩ = some (.int .i64 xi) := by rw [cell_of_block nb8]; rfl
      have b6 : w8.cell? ⟨wr.heap.size, 6, none⟩ = some (.string xs) := by rw [cell_of_block nb8]; rfl
      have b7 : w8.cell? ⟨wr.heap.size, 7, none⟩ = some (.slice xal xnl xcl) := by rw [cell_of_block nb8]; rfl
      have b8 : w8.cell? ⟨wr.heap.size, 8, none⟩ = some (.slice xam xnm xcm) := by rw [cell_of_block nb8]; rfl
      clear gS g7 B6 B6d BD6 nbR nb7 B7 p8 oO q0 q1 q2 q3 q4 q5 q6 q7 q8 HLK
      go_wp2_with (at_builtin; go_loud (refine wpl_push keepP _ rfl (.tmp 37) (.tmp 39) 32 rfl 0 i0 _ 136 Tryz.underlying32 hI.out.1 hI.out.2.1 hI.out.2.2.1 hI.out.2.2.2 rfl (by decide) (by decide) u3 (⟨k, nm, m, v⟩ : El) rfl (HP8.out.alloc keepP _) w8.heap.size 1 (0, 0) rfl (heap_alloc_new _ _) rfl one9 (keepP _ _ _ _ _ _ (fun b hb => Below.heap_alloc _ _ b (HKp.out b hb).2.1) (fun _ h => h) HLE.out) (fun b hb => ⟨(HKp.out b hb).1, by rw [alloc_size]; have := (HKp.out b hb).2.1; omega, (HKp.out b hb).2.2⟩) (by rw [hllp]; omega) (Nat.zero_le _) ?_))
      intro g cap w5 o5 g5 e5
      have hg : w.heap.size ≤ g := by
        rcases e5 with e | e
        · exact (hownP g e).1
        · (try rw [alloc_size] at e); omega
      have b5 : Below w.heap.size w w5 := ((bO.trans (B8.out.mono hzO)).alloc (by omega) _).grown g5 (by rw [alloc_size]; omega) (fun r e => (hownP r e).1)
      go_wp2_with fail
      go_roundw
      case rel => exact ⟨j + 1, _, _, by omega, by go_num, rfl, b5, by rw [HTP.out]; simpa using o5, fun r e => by (simp [Value.ownBlock] at e; omega), fun b hb => by
        rcases hb with hb | hb | hb
        · exact HSP.out b hb
        · exact .inl hb
        · exact .inr (by have := hb.1; omega)⟩
      case measure => simp [RowKit.intOf]; omega
    · obtain rfl : j = p.length := by omega
      have y3 : ¬ (p.length : Int) < p.length := by omega
      rw [List.take_length] at oO
      obtain ⟨sa, sc, sb, so, rfl, hdl, hLs⟩ := own_listP (T := Tw S w wr) oO (fun b hb => (HSP.out b hb).imp id (fun h => ⟨h, (oO.off b hb).2.1⟩)) (fun g hg => .inr ⟨HO.out g hg, (oO.lt hg).2⟩)
      have HB := hmk bO
      have HLs := hmk hLs
      clear oO hLs bO
      go_wp2_with fail
      go_ret
      exact ⟨sa, sc, sb, so, rfl, hdl, HLs.out, HB.out⟩
set_option maxHeartbeats 4000000 in
set_option maxRecDepth 100000 in
theorem twinq_any (l : List (List El)) (S : Nat → Prop) (al : Option Addr) (cl bl ol : Nat) (w : World) (hal : Headed al l.length cl bl ol) (hl : liesQ w S l bl ol) (hS : ∀ b, S b → b < w.heap.size) (hwt : l.length + wtQ l ≤ 2147483647) :
    Calls Tryz.prog 20 #[.slice al l.length cl] w (TrPost l S w) := by
  have HL := hmk hl
  have HS : Hid (∀ b, S b → b < w.heap.size) := hS
  clear hl
  obtain ⟨i0, hi0, hz0, hz1, hz2⟩ := info_parts info33
  have hI : Hid (Tryz.prog.info? 32 = some i0 ∧ i0.zero = some (.slice none 0 0) ∧ i0.size = 1 ∧ i0.bytes = 24) := ⟨hi0, hz0, hz1, hz2⟩
  clear hi0 hz0 hz1 hz2
  go_enter Tryz.func20, Tryz.ntmps20
  go_wp2_with fail
  go_loopw [3, 4] (fun e3 e wr => ∃ (j : Nat) (pv : Value) (SP : Nat → Prop), j ≤ l.length ∧ e = .int .i64 (j : Int) ∧ e3 = pv ∧ Below w.heap.size w wr ∧ OwnQ wr 0 SP pv (l.take j) ∧ Hid (∀ r, pv.ownBlock = some r → w.heap.size ≤ r) ∧ Hid (∀ b, SP b → S b ∨ w.heap.size ≤ b)) (fun _ e _ => l.length - (RowKit.intOf e).toNat)
  case atStart => exact ⟨0, _, _, by omega, rfl, rfl, Below.refl _ _, by simpa using OwnR.nil _ _, fun r h => by simp [Value.ownBlock] at h, fun b (h : False) => h.elim⟩
  case round =>
    obtain ⟨j, pv, SP, hj, rfl, rfl, bO, oO, HO, HSP⟩ := hrel
    have hzO := bO.size
    by_cases hjl : j < l.length
    · have y3 : (j : Int) < l.length := by omega
      obtain ⟨hSb, v, hv, ap, cp, bp, op, rfl, hap, hlp⟩ := HL.out j hjl
      obtain rfl : al = some ⟨bl, ol, none⟩ := hal.at_.resolve_left (by omega)
      have hkw : ∀ b, S b → wr.heap[b]? = w.heap[b]? := fun b hb => bO.block b (hS b hb)
      have r0 : wr.cell? ⟨bl, ol + j, none⟩ = some (.slice ap (l[j]).length cp) := (World.cell?_of_block (w := w) (a := ⟨bl, ol + j, none⟩) (hkw _ hSb)).trans hv
      have hwj : wtP l[j] ≤ 2147483647 := by have := wtQ_mem (List.getElem_mem hjl); omega
      have HTP : Hid (l.take (j + 1) = l.take j ++ [l[j]]) := by show _ = _; rw [List.take_succ_eq_append_getElem hjl]
      have c := hmk (twq_any l[j] S ap cp bp op wr hap (liesP_keep hkw (fun _ h => h) hlp) (fun b hb => Nat.lt_of_lt_of_le (hS b hb) hzO) hwj)
      have hll : (l.take j).length = j := by simp; omega
      clear hv hlp hkw hwj hap
      generalize l[j] = p at *
      go_wp2_with fail
      refine c.out.mono ?_
      rintro e w2 ⟨qa, qc, qb, qo, rfl, hhq, hlq, b2⟩
      have hz2 := b2.size
      have o2 := oO.below keepQ b2
      have hown : ∀ r, u3.ownBlock = some r → w.heap.size ≤ r ∧ r < wr.heap.size := fun r hr => ⟨HO.out r hr, (oO.lt hr).2⟩
      have HX : Hid (EQ p w2 (Tw S wr w2) [.slice qa p.length qc]) := ⟨_, rfl, qa, qc, qb, qo, rfl, hhq, hlq⟩
      have HKk : Hid (∀ b, Tw S wr w2 b → 0 ≤ b ∧ b < w2.heap.size ∧ some b ≠ u3.ownBlock) := fun b hb => by
        rcases hb with hb | hb
        · have := HS.out b hb
          exact ⟨Nat.zero_le _, by omega, fun e => by have := (hown b e.symm).1; omega⟩
        · exact ⟨Nat.zero_le _, hb.2, fun e => by have := (hown b e.symm).2; omega⟩
      have HO2 := hmk o2
      have B2 := hmk (bO.trans (b2.mono hzO))
      clear hlq o2 b2 c r0
      go_wp2_with (at_builtin; go_loud (refine wpl_push keepQ _ rfl (.tmp 17) (.tmp 19) 22 rfl 0 i0 _ 24 Tryz.underlying22 hI.out.1 hI.out.2.1 hI.out.2.2.1 hI.out.2.2.2 rfl (by decide) (by decide) u3 p rfl (HO2.out.alloc keepQ _) w2.heap.size 1 (0, 0) rfl (heap_alloc_new w2 _) rfl oneQ (keepQ _ _ _ _ _ _ (fun b hb => Below.heap_alloc w2 _ b (HKk.out b hb).2.1) (fun _ h => h) HX.out) (fun b hb => ⟨(HKk.out b hb).1, by rw [alloc_size]; have := (HKk.out b hb).2.1; omega, (HKk.out b hb).2.2⟩) (by rw [hll]; omega) (Nat.zero_le _) ?_))
      intro g cap w5 o5 g5 e5
      have hg : w.heap.size ≤ g := by
        rcases e5 with e | e
        · exact (hown g e).1
        · (try rw [alloc_size] at e); omega
      have b5 : Below w.heap.size w w5 := (B2.out.alloc (by omega) _).grown g5 (by rw [alloc_size]; omega) (fun r e => (hown r e).1)
      go_wp2_with fail
      go_roundw
      case rel => exact ⟨j + 1, _, _, by omega, by go_num, rfl, b5, by rw [HTP.out]; simpa [hll] using o5, fun r e => by (simp [Value.ownBlock] at e; omega), fun b hb => by
        rcases hb with hb | hb | hb
        · exact HSP.out b hb
        · exact .inl hb
        · exact .inr (by have := hb.1; omega)⟩
      case measure => simp [RowKit.intOf]; omega
    · obtain rfl : j = l.length := by omega
      have y3 : ¬ (l.length : Int) < l.length := by omega
      rw [List.take_length] at oO
      obtain ⟨sa, sc, sb, so, rfl, hdl, hLs⟩ := own_listQ (T := Tw S w wr) oO (fun b hb => (HSP.out b hb).imp id (fun h => ⟨h, (oO.off b hb).2.1⟩)) (fun g hg => .inr ⟨HO.out g hg, (oO.lt hg).2⟩)
      have HB := hmk bO
      have HLs := hmk hLs
      clear oO hLs bO
      go_wp2_with fail
      go_ret
      exact ⟨sa, sc, sb, so, rfl, hdl, HLs.out, HB.out⟩
end Go.Proofs.YthlhkhcbkgbhfaaGreatDoor
