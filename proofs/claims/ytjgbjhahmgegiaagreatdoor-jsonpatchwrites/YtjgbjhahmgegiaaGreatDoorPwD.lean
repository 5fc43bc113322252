import Derived.Test.YtjgbjhahmgegiaaGreatDoorPwC
/- a step as a value: the program's written. -/
set_option linter.unusedSimpArgs false
set_option linter.unusedVariables false
set_option maxRecDepth 100000
namespace Go.Proofs.YtjgbjhahmgegiaaGreatDoor
open Go.RowKit Go.Lib Go.Maps
/-- ops[s] of a word that the book has -/
theorem look1_any {w : World} {b : Nat} (h : OpM w b) (s : ByteArray) (hs : s.size ≤ maxLen) {f x : Bool} {n : Nat} (ho : opOf s = some (f, x, n)) : (Instr.lookup 48 (.map (some b)) (.string s) false).run Tryz.prog w = .ok (opV f x n) w := by
  obtain ⟨es, clock, hb, F, _, hD⟩ := h
  rcases fit_look false keyed9 Tryz.underlying48 (zero63 w) hb F (key9 s hs) with ⟨hrun, _, hat⟩ | ⟨e0, y, _, _, hrun, hRv, hat, _⟩
  · have e := hat (.lit (.bool true))
    rw [← hD, opD_at, ho] at e
    cases e
  · have e := hat (.lit (.bool true))
    rw [← hD, opD_at, ho] at e
    obtain ⟨y1, y2⟩ := y
    dsimp only at e
    subst e
    rw [hrun, opE_inv hRv]
    rfl
theorem Wst.drew {W0 W : World} {gv : Nat} {S SM : Nat → Prop} {ms : List Mem} {smv : Value} (h : Wst W0 gv S SM ms smv W) (hg : gv < W0.heap.size) : Wst W0 gv S SM ms smv W.drew := h.below hg ((Below.refl _ _).drew)
theorem one14 {r r' : ByteArray} {k i k' i' : Int} {b b' : Bool} {s s' : ByteArray} {p q p' q' : Option Addr} {n c n' c' m d m' d' : Nat} : ∀ u ∈ [Value.string r, .int .i64 k, .bool b, .int .i64 i, .string s, .slice p n c, .slice q n' c'] ++ [Value.string r', .int .i64 k', .bool b', .int .i64 i', .string s', .slice p' m d, .slice q' m' d'], u.oneCell' = true := by
  intro u hu
  rcases List.mem_append.1 hu with h | h <;> exact one7 u h
set_option maxHeartbeats 8000000 in
theorem pwritten_any (b : Nat) (op pa fr : ByteArray) (v : V) (f q : Bool) (n : Nat) (S : Nat → Prop) (cs : List Value) (w : World) (hm : OpM w b) (ho : opOf op = some (f, q, n)) (hv : v.lies false w S cs) (hS : ∀ b, S b → b < w.heap.size) (h1 : op.size ≤ maxLen) (h2 : pa.size ≤ maxLen) (h3 : fr.size ≤ maxLen) :
    Calls Tryz.prog 26 #[.map (some b), .agg (.string op :: .string pa :: .string fr :: cs).toArray] w (TvPost (wrV (op, pa, fr, v)) S w) := by
  obtain ⟨vk, vb, vi, vs, val, vnl, vcl, vam, vnm, vcm, rfl⟩ := V.ten hv
  have HV := hmk hv
  have HF : Hid (fromF op = f) := by show _ = _; rw [fromF, ho]
  have HQ : Hid (valF op = q) := by show _ = _; rw [valF, ho]
  have LK := look1_any (hm.below (two_below w (.cells #[.string op, .string pa, .string fr, .int .i64 vk, .bool vb, .int .i64 vi, .string vs, .slice val vnl vcl, .slice vam vnm vcm] 51) (.cells #[.int .i64 0, .bool false, .int .i64 0, .string ⟨#[]⟩, .slice none 0 0, .slice none 0 0] 25))) op h1 ho
  dsimp only [opV] at LK
  have hsf := fun (W : World) (a : Addr) (n : Nat) (m : Mode) => run_store Tryz.prog W a (.func (.func n) #[] #[]) m rfl
  obtain ⟨i1, hi1, hy0, hy1, hy2⟩ := info_parts info44
  have hJ : Hid (Tryz.prog.info? 45 = some i1 ∧ i1.zero = some (.agg #[.string ⟨#[]⟩, .int .i64 0, .bool false, .int .i64 0, .string ⟨#[]⟩, .slice none 0 0, .slice none 0 0]) ∧ i1.size = 7 ∧ i1.bytes = 104) := ⟨hi1, hy0, hy1, hy2⟩
  clear hi1 hy0 hy1 hy2 hv ho hm
  have z0 : ((((w.alloc (.cells #[.string op, .string pa, .string fr, .int .i64 vk, .bool vb, .int .i64 vi, .string vs, .slice val vnl vcl, .slice vam vnm vcm] 51)).alloc (.cells #[.int .i64 0, .bool false, .int .i64 0, .string ⟨#[]⟩, .slice none 0 0, .slice none 0 0] 25)).alloc (.cells #[.bool f, .bool q, .func (.func n) #[] #[]] 63)).alloc (.cells #[.int .i64 5, .bool false, .int .i64 0, .string ⟨#[]⟩, .slice none 0 0, .slice none 0 0] 25)).heap.size = w.heap.size + 4 := by rw [alloc_size, alloc_size, alloc_size, alloc_size]
  have B0 : Below w.heap.size w ((((w.alloc (.cells #[.string op, .string pa, .string fr, .int .i64 vk, .bool vb, .int .i64 vi, .string vs, .slice val vnl vcl, .slice vam vnm vcm] 51)).alloc (.cells #[.int .i64 0, .bool false, .int .i64 0, .string ⟨#[]⟩, .slice none 0 0, .slice none 0 0] 25)).alloc (.cells #[.bool f, .bool q, .func (.func n) #[] #[]] 63)).alloc (.cells #[.int .i64 5, .bool false, .int .i64 0, .string ⟨#[]⟩, .slice none 0 0, .slice none 0 0] 25)) := (three_below w _ _ _).alloc (by rw [alloc_size, alloc_size, alloc_size]; omega) _
  obtain ⟨T0, T1, T2⟩ := three_allocs w (.cells #[.string op, .string pa, .string fr, .int .i64 vk, .bool vb, .int .i64 vi, .string vs, .slice val vnl vcl, .slice vam vnm vcm] 51) (.cells #[.int .i64 0, .bool false, .int .i64 0, .string ⟨#[]⟩, .slice none 0 0, .slice none 0 0] 25) (.cells #[.bool f, .bool q, .func (.func n) #[] #[]] 63)
  have K0 : ∀ k, k < w.heap.size + 3 → ((((w.alloc (.cells #[.string op, .string pa, .string fr, .int .i64 vk, .bool vb, .int .i64 vi, .string vs, .slice val vnl vcl, .slice vam vnm vcm] 51)).alloc (.cells #[.int .i64 0, .bool false, .int .i64 0, .string ⟨#[]⟩, .slice none 0 0, .slice none 0 0] 25)).alloc (.cells #[.bool f, .bool q, .func (.func n) #[] #[]] 63)).alloc (.cells #[.int .i64 5, .bool false, .int .i64 0, .string ⟨#[]⟩, .slice none 0 0, .slice none 0 0] 25)).heap[k]? = (((w.alloc (.cells #[.string op, .string pa, .string fr, .int .i64 vk, .bool vb, .int .i64 vi, .string vs, .slice val vnl vcl, .slice vam vnm vcm] 51)).alloc (.cells #[.int .i64 0, .bool false, .int .i64 0, .string ⟨#[]⟩, .slice none 0 0, .slice none 0 0] 25)).alloc (.cells #[.bool f, .bool q, .func (.func n) #[] #[]] 63)).heap[k]? := fun k hk => Below.heap_alloc _ _ k (by rw [alloc_size, alloc_size, alloc_size]; omega)
  have N0 := (K0 _ (by omega)).trans T0
  have N1 := (K0 _ (by omega)).trans T1
  have NO := (K0 _ (by omega)).trans T2
  have N2 : ((((w.alloc (.cells #[.string op, .string pa, .string fr, .int .i64 vk, .bool vb, .int .i64 vi, .string vs, .slice val vnl vcl, .slice vam vnm vcm] 51)).alloc (.cells #[.int .i64 0, .bool false, .int .i64 0, .string ⟨#[]⟩, .slice none 0 0, .slice none 0 0] 25)).alloc (.cells #[.bool f, .bool q, .func (.func n) #[] #[]] 63)).alloc (.cells #[.int .i64 5, .bool false, .int .i64 0, .string ⟨#[]⟩, .slice none 0 0, .slice none 0 0] 25)).heap[w.heap.size + 3]? = some (.cells #[.int .i64 5, .bool false, .int .i64 0, .string ⟨#[]⟩, .slice none 0 0, .slice none 0 0] 25) := by
    have h := heap_alloc_new (((w.alloc (.cells #[.string op, .string pa, .string fr, .int .i64 vk, .bool vb, .int .i64 vi, .string vs, .slice val vnl vcl, .slice vam vnm vcm] 51)).alloc (.cells #[.int .i64 0, .bool false, .int .i64 0, .string ⟨#[]⟩, .slice none 0 0, .slice none 0 0] 25)).alloc (.cells #[.bool f, .bool q, .func (.func n) #[] #[]] 63)) (.cells #[.int .i64 5, .bool false, .int .i64 0, .string ⟨#[]⟩, .slice none 0 0, .slice none 0 0] 25)
    have e : (((w.alloc (.cells #[.string op, .string pa, .string fr, .int .i64 vk, .bool vb, .int .i64 vi, .string vs, .slice val vnl vcl, .slice vam vnm vcm] 51)).alloc (.cells #[.int .i64 0, .bool false, .int .i64 0, .string ⟨#[]⟩, .slice none 0 0, .slice none 0 0] 25)).alloc (.cells #[.bool f, .bool q, .func (.func n) #[] #[]] 63)).heap.size = w.heap.size + 3 := by rw [alloc_size, alloc_size, alloc_size]
    rw [e] at h
    exact h
  clear T0 T1 T2 K0
  obtain ⟨W0, hW0⟩ : ∃ W0, W0 = (((w.alloc (.cells #[.string op, .string pa, .string fr, .int .i64 vk, .bool vb, .int .i64 vi, .string vs, .slice val vnl vcl, .slice vam vnm vcm] 51)).alloc (.cells #[.int .i64 0, .bool false, .int .i64 0, .string ⟨#[]⟩, .slice none 0 0, .slice none 0 0] 25)).alloc (.cells #[.bool f, .bool q, .func (.func n) #[] #[]] 63)).alloc (.cells #[.int .i64 5, .bool false, .int .i64 0, .string ⟨#[]⟩, .slice none 0 0, .slice none 0 0] 25) := ⟨_, rfl⟩
  rw [← hW0] at z0 B0 N0 N1 N2 NO
  have HS : Hid (∀ b, S b → b < W0.heap.size ∧ b ≠ w.heap.size + 3) := fun b hb => ⟨by have := hS b hb; omega, by have := hS b hb; omega⟩
  have HK : Hid (∀ W, W0.grownBy W (some (w.heap.size + 3)) → W.heap[w.heap.size]? = some (.cells #[.string op, .string pa, .string fr, .int .i64 vk, .bool vb, .int .i64 vi, .string vs, .slice val vnl vcl, .slice vam vnm vcm] 51) ∧ W.heap[w.heap.size + 1]? = some (.cells #[.int .i64 0, .bool false, .int .i64 0, .string ⟨#[]⟩, .slice none 0 0, .slice none 0 0] 25) ∧ W.heap[w.heap.size + 2]? = some (.cells #[.bool f, .bool q, .func (.func n) #[] #[]] 63) ∧ v.lies false W S [.int .i64 vk, .bool vb, .int .i64 vi, .string vs, .slice val vnl vcl, .slice vam vnm vcm] ∧ Below w.heap.size w W) := fun W h => by
    have bW := B0.grown h (by omega) (fun r e => by have := Option.some.inj e; omega)
    exact ⟨(h.block _ (by omega) (fun e => by have := Option.some.inj e; omega)).trans N0, (h.block _ (by omega) (fun e => by have := Option.some.inj e; omega)).trans N1, (h.block _ (by omega) (fun e => by have := Option.some.inj e; omega)).trans NO, V.lies_keep (fun h => h) (fun x hx => bW.block x (hS x hx)) (fun _ h => h) _ HV.out, bW⟩
  have X1 : Hid (Wst W0 (w.heap.size + 3) S NoB [] (.slice none 0 0) W0) := ⟨World.grownBy.refl _ _, N2, OwnR.nil _ _, fun r h => by simp [Value.ownBlock] at h, fun b (h : NoB b) => False.elim h⟩
  go_enter Tryz.func26, Tryz.ntmps26
  go_upto_region 2 with fail
  rw [← hW0]
  have o0 : W0.cell? ⟨w.heap.size + 1 + 1, 0, none⟩ = some (.bool f) := by rw [cell_of_block NO]; rfl
  clear hW0 LK hsf HV N0 N1 N2 NO
  cases f with
  | true =>
    go_upto_region 3 with fail
    clear o0
    obtain ⟨SM10, M10, XX10, HM10⟩ : ∃ (SM : Nat → Prop) (M : List Mem), Hid (Wst W0 (w.heap.size + 3) S SM M (.slice none 0 0) W0) ∧ Hid (M = ([] : List Mem)) := ⟨_, _, X1, rfl⟩
    clear X1
    obtain ⟨NS, _, _, _, BW⟩ := HK.out W0 XX10.out.gr
    have zW := XX10.out.gr.size
    have a0 : W0.cell? ⟨w.heap.size, 0, none⟩ = some (.string op) := by rw [cell_of_block NS]; rfl
    have a1 : W0.cell? ⟨w.heap.size, 1, none⟩ = some (.string pa) := by rw [cell_of_block NS]; rfl
    have a2 : W0.cell? ⟨w.heap.size, 2, none⟩ = some (.string fr) := by rw [cell_of_block NS]; rfl
    have a3 : W0.cell? ⟨w.heap.size, 3, none⟩ = some (.int .i64 vk) := by rw [cell_of_block NS]; rfl
    have a4 : W0.cell? ⟨w.heap.size, 4, none⟩ = some (.bool vb) := by rw [cell_of_block NS]; rfl
    have a5 : W0.cell? ⟨w.heap.size, 5, none⟩ = some (.int .i64 vi) := by rw [cell_of_block NS]; rfl
    have a6 : W0.cell? ⟨w.heap.size, 6, none⟩ = some (.string vs) := by rw [cell_of_block NS]; rfl
    have a7 : W0.cell? ⟨w.heap.size, 7, none⟩ = some (.slice val vnl vcl) := by rw [cell_of_block NS]; rfl
    have a8 : W0.cell? ⟨w.heap.size, 8, none⟩ = some (.slice vam vnm vcm) := by rw [cell_of_block NS]; rfl
    clear NS
    have HM5 : Hid (∀ W', Below W0.heap.size W0 W' → W'.cell? ⟨w.heap.size + 1 + 1 + 1, 5, none⟩ = some (.slice none 0 0)) := fun W' h => by rw [cell_of_block (b := w.heap.size + 1 + 1 + 1) (XX10.out.below (by omega) h).bx]; rfl
    have HA : Hid (∀ b, (fun b => b = w.heap.size) b → b < W0.heap.size ∧ b ≠ w.heap.size + 3 ∧ some b ≠ (.slice none 0 0 : Value).ownBlock) := fun b hb => by
      subst hb
      exact ⟨by omega, by omega, fun e => by have := XX10.out.fl _ e.symm; omega⟩
    have KP : Hid (∀ W', Below W0.heap.size W0 W' → KeepB W0 (fun b => b = w.heap.size) W') := fun W' hb => (KeepB.refl W0 _).below hb (fun b h => (HA.out b h).1)
    have BD : Hid (Below W0.heap.size W0 W0.drew) := (Below.refl _ _).drew
    have hll : (M10.map some).length = M10.length := List.length_map ..
    obtain ⟨n10, hnn⟩ : ∃ n, M10.length + 1 = n := ⟨_, rfl⟩
    have hn10 : (M10.map some).length ≤ 4294967290 := by rw [hll, HM10.out]; simp []
    have HLL : Hid ((M10.map some).length + 1 = n10) := by show _ = _; rw [hll]; exact hnn
    clear hll hnn
    go_cut [22] (fun e22 wx => ∃ (SM : Nat → Prop) (g cap : Nat), Hid (Wst W0 (w.heap.size + 3) S SM (M10 ++ [(kFrom, strV fr)]) (.slice (some ⟨g, 0, none⟩) n10 cap) wx))
    case first =>
      refine wp_region_held_drew (S := KeepB W0 (fun b => b = w.heap.size)) (by kernel_rfl) (KeepB.drew _ _) (fun hHeld => ?_)
      (refine wpAnyH_take (i := 0) (v := ?_) rfl (by kernel_rfl) (by kernel_rfl) (by kernel_rfl) (fun _ _ _ h => h) (Or.inl ⟨by kernel_rfl, ?_⟩) (by assumption) ?_; rotate_left 1; (intro W0 hSw; (try dsimp only at hSw); go_simp; (try with_reducible rfl)); (try simp only [Act.put, List.setIfInBounds_toArray, List.set_cons_zero, List.set_cons_succ]))
      (refine wpAnyH_take (i := 2) (v := ?_) rfl (by kernel_rfl) (by kernel_rfl) (by kernel_rfl) (fun _ _ _ h => h) (Or.inl ⟨by kernel_rfl, ?_⟩) (by assumption) ?_; rotate_left 1; (intro W0 hSw; (try dsimp only at hSw); go_simp; (try with_reducible rfl)); (try simp only [Act.put, List.setIfInBounds_toArray, List.set_cons_zero, List.set_cons_succ]))
      (refine wpAnyH_take (i := 3) (v := ?_) rfl (by kernel_rfl) (by kernel_rfl) (by kernel_rfl) (fun _ _ _ h => h) (Or.inl ⟨by kernel_rfl, ?_⟩) (by assumption) ?_; rotate_left 1; (intro W0 hSw; have z := hSw.cell rfl a2; go_simp; (try with_reducible rfl)); (try simp only [Act.put, List.setIfInBounds_toArray, List.set_cons_zero, List.set_cons_succ]))
      refine wpAnyH_ready (rs := [1, 4]) (by kernel_rfl) (by simp) ?_
      refine AllReadyH.cons rfl (fun K hK => ?_) (AllReadyH.cons rfl (fun K hK => ?_) AllReadyH.nil)
      · have m5 := HM5.out _ BD.out
        go_simp
        refine hK.out _ _ (KP.out _ BD.out) (fun hHeld => ?_)
        clear hK K m5
        (try simp only [Act.put, List.setIfInBounds_toArray, List.set_cons_zero, List.set_cons_succ])
        refine wpAnyH_ready (rs := [4]) (by kernel_rfl) (by simp) ?_
        refine AllReadyH.cons rfl (fun K hK => ?_) AllReadyH.nil
        go_simp
        refine (str_any fr _).mono ?_
        rintro e w3 ⟨rfl, b3⟩
        have B3 : Below W0.heap.size W0 w3 := (BD.out).trans (b3.mono (BD.out).size)
        go_wp2_with fail
        refine hK.out _ _ (KP.out _ B3) (fun hHeld => ?_)
        clear hK K
        (try simp only [Act.put, List.setIfInBounds_toArray, List.set_cons_zero, List.set_cons_succ])
        (refine wpAnyH_take (i := 5) (v := ?_) rfl (by kernel_rfl) (by kernel_rfl) (by kernel_rfl) (fun _ _ _ h => h) (Or.inl ⟨by kernel_rfl, ?_⟩) (by assumption) ?_; rotate_left 1; (intro W0 hSw; (try dsimp only at hSw); go_simp; (try with_reducible rfl)); (try simp only [Act.put, List.setIfInBounds_toArray, List.set_cons_zero, List.set_cons_succ]))
        refine wpAnyH_ready (rs := [6]) (by kernel_rfl) (by simp) ?_
        refine AllReadyH.cons rfl (fun K hK => ?_) AllReadyH.nil
        have bA : Below w3.heap.size w3 (w3.alloc (.cells #[.string kFrom, .int .i64 3, .bool false, .int .i64 0, .string fr, .slice none 0 0, .slice none 0 0] 45)) := (Below.refl _ _).alloc (Nat.le_refl _) _
        have BA : Below W0.heap.size W0 (w3.alloc (.cells #[.string kFrom, .int .i64 3, .bool false, .int .i64 0, .string fr, .slice none 0 0, .slice none 0 0] 45)) := B3.trans (bA.mono B3.size)
        go_simp
        refine hK.out _ _ (KP.out _ BA) (fun hHeld => ?_)
        clear hK K
        (try simp only [Act.put, List.setIfInBounds_toArray, List.set_cons_zero, List.set_cons_succ])
        have XA := hmk (XX10.out.below (show w.heap.size + 3 < W0.heap.size by omega) BA)
        have HE0 : Hid (EM false (some (kFrom, strV fr)) (w3.alloc (.cells #[.string kFrom, .int .i64 3, .bool false, .int .i64 0, .string fr, .slice none 0 0, .slice none 0 0] 45)) NoB [.string kFrom, .int .i64 3, .bool false, .int .i64 0, .string fr, .slice none 0 0, .slice none 0 0]) := ⟨_, rfl, (show (kFrom : ByteArray).size ≤ maxLen by decide), str_lies fr h3 _ _⟩
        have HX : Hid (∀ b, NoB b → 0 ≤ b ∧ b < (w3.alloc (.cells #[.string kFrom, .int .i64 3, .bool false, .int .i64 0, .string fr, .slice none 0 0, .slice none 0 0] 45)).heap.size ∧ some b ≠ (.slice none 0 0 : Value).ownBlock) := fun b (h : NoB b) => False.elim h
        refine wpAnyH_ready (rs := [7]) (by kernel_rfl) (by simp) ?_
        refine AllReadyH.cons rfl (fun K hK => ?_) AllReadyH.nil
        refine step_push (keepM false) rfl (.tmp 15) (.tmp 20) 23 rfl 0 i1 _ 104 Tryz.underlying23 hJ.out.1 hJ.out.2.1 hJ.out.2.2.1 hJ.out.2.2.2 rfl (by decide) (by decide) (.slice none 0 0) (some (kFrom, strV fr)) rfl XA.out.ow w3.heap.size 1 (0, 0) rfl (heap_alloc_new w3 _) rfl one7 HE0.out HX.out (by omega) (Nat.zero_le _) ?_
        intro g cap w9 o5 g5 e5
        rw [HLL.out] at o5 ⊢
        have X9 := hmk (XA.out.store (SX := NoB) (ms' := M10 ++ [(kFrom, strV fr)]) (by omega) HS.out (by rw [List.map_append]; exact o5) g5 (by first | exact e5 | (rw [alloc_size]; exact e5)) (fun b (h : NoB b) => False.elim h))
        have f5 : w9.heap[w.heap.size + 1 + 1 + 1]? = _ := (g5.block (w.heap.size + 3) (Nat.lt_of_lt_of_le (show w.heap.size + 3 < W0.heap.size by omega) XA.out.gr.size) (fun e => by have := XA.out.fl _ e.symm; omega)).trans XA.out.bx
        have e6 : w9.cell? ⟨w.heap.size + 1 + 1 + 1, 5, none⟩ = some (.slice none 0 0) := by rw [cell_of_block f5]; rfl
        have e7 : w9.frozen? ⟨w.heap.size + 1 + 1 + 1, 5, none⟩ = false := frozen_of_block f5 5
        have K5 : Hid (KeepB W0 (fun b => b = w.heap.size) w9) := (KP.out _ BA).grown g5 (fun b hb => ⟨Nat.lt_of_lt_of_le (HA.out b hb).1 BA.size, (HA.out b hb).2.2⟩)
        have K6 : Hid (∀ u, KeepB W0 (fun b => b = w.heap.size) (w9.setCell ⟨w.heap.size + 1 + 1 + 1, 5, none⟩ u)) := fun u => K5.out.set (fun b hb => (HA.out b hb).2.1) 5 u
        refine hK.out _ _ K5.out (fun hHeld => ?_)
        clear hK K f5
        (try simp only [Act.put, List.setIfInBounds_toArray, List.set_cons_zero, List.set_cons_succ])
        (refine wpAnyH_take (i := 8) (v := ?_) rfl (by kernel_rfl) (by kernel_rfl) (by kernel_rfl) (fun _ _ _ h => h) (Or.inl ⟨by kernel_rfl, ?_⟩) (by assumption) ?_; rotate_left 1; (intro W0 hSw; (try dsimp only at hSw); go_simp; (try with_reducible rfl)); (try simp only [Act.put, List.setIfInBounds_toArray, List.set_cons_zero, List.set_cons_succ]))
        refine wpAnyH_ready (rs := [9]) (by kernel_rfl) (by simp) ?_
        refine AllReadyH.cons rfl (fun K hK => ?_) AllReadyH.nil
        go_simp
        refine hK.out _ _ (K6.out _) (fun hHeld => ?_)
        clear hK K
        (try simp only [Act.put, List.setIfInBounds_toArray, List.set_cons_zero, List.set_cons_succ])
        refine wpAnyH_done (by kernel_rfl) ?_ _
        (try dsimp only [Act.put, List.getElem_toArray, List.getElem_cons_succ, List.getElem_cons_zero, List.setIfInBounds_toArray, List.set_cons_zero, List.set_cons_succ])
        clear hHeld K5 K6 e6 e7 XA HX o5 g5 e5
        go_wp2_with fail
        go_meet
        exact ⟨_, g, cap, X9⟩
      · go_simp
        refine (str_any fr _).mono ?_
        rintro e w3 ⟨rfl, b3⟩
        have B3 : Below W0.heap.size W0 w3 := (BD.out).trans (b3.mono (BD.out).size)
        go_wp2_with fail
        refine hK.out _ _ (KP.out _ B3) (fun hHeld => ?_)
        clear hK K
        (try simp only [Act.put, List.setIfInBounds_toArray, List.set_cons_zero, List.set_cons_succ])
        (refine wpAnyH_take (i := 5) (v := ?_) rfl (by kernel_rfl) (by kernel_rfl) (by kernel_rfl) (fun _ _ _ h => h) (Or.inl ⟨by kernel_rfl, ?_⟩) (by assumption) ?_; rotate_left 1; (intro W0 hSw; (try dsimp only at hSw); go_simp; (try with_reducible rfl)); (try simp only [Act.put, List.setIfInBounds_toArray, List.set_cons_zero, List.set_cons_succ]))
        refine wpAnyH_ready (rs := [1, 6]) (by kernel_rfl) (by simp) ?_
        refine AllReadyH.cons rfl (fun K hK => ?_) (AllReadyH.cons rfl (fun K hK => ?_) AllReadyH.nil)
        · have m5 := HM5.out _ B3
          go_simp
          refine hK.out _ _ (KP.out _ B3) (fun hHeld => ?_)
          clear hK K m5
          (try simp only [Act.put, List.setIfInBounds_toArray, List.set_cons_zero, List.set_cons_succ])
          refine wpAnyH_ready (rs := [6]) (by kernel_rfl) (by simp) ?_
          refine AllReadyH.cons rfl (fun K hK => ?_) AllReadyH.nil
          have bA : Below w3.heap.size w3 (w3.alloc (.cells #[.string kFrom, .int .i64 3, .bool false, .int .i64 0, .string fr, .slice none 0 0, .slice none 0 0] 45)) := (Below.refl _ _).alloc (Nat.le_refl _) _
          have BA : Below W0.heap.size W0 (w3.alloc (.cells #[.string kFrom, .int .i64 3, .bool false, .int .i64 0, .string fr, .slice none 0 0, .slice none 0 0] 45)) := B3.trans (bA.mono B3.size)
          go_simp
          refine hK.out _ _ (KP.out _ BA) (fun hHeld => ?_)
          clear hK K
          (try simp only [Act.put, List.setIfInBounds_toArray, List.set_cons_zero, List.set_cons_succ])
          have XA := hmk (XX10.out.below (show w.heap.size + 3 < W0.heap.size by omega) BA)
          have HE0 : Hid (EM false (some (kFrom, strV fr)) (w3.alloc (.cells #[.string kFrom, .int .i64 3, .bool false, .int .i64 0, .string fr, .slice none 0 0, .slice none 0 0] 45)) NoB [.string kFrom, .int .i64 3, .bool false, .int .i64 0, .string fr, .slice none 0 0, .slice none 0 0]) := ⟨_, rfl, (show (kFrom : ByteArray).size ≤ maxLen by decide), str_lies fr h3 _ _⟩
          have HX : Hid (∀ b, NoB b → 0 ≤ b ∧ b < (w3.alloc (.cells #[.string kFrom, .int .i64 3, .bool false, .int .i64 0, .string fr, .slice none 0 0, .slice none 0 0] 45)).heap.size ∧ some b ≠ (.slice none 0 0 : Value).ownBlock) := fun b (h : NoB b) => False.elim h
          refine wpAnyH_ready (rs := [7]) (by kernel_rfl) (by simp) ?_
          refine AllReadyH.cons rfl (fun K hK => ?_) AllReadyH.nil
          refine step_push (keepM false) rfl (.tmp 15) (.tmp 20) 23 rfl 0 i1 _ 104 Tryz.underlying23 hJ.out.1 hJ.out.2.1 hJ.out.2.2.1 hJ.out.2.2.2 rfl (by decide) (by decide) (.slice none 0 0) (some (kFrom, strV fr)) rfl XA.out.ow w3.heap.size 1 (0, 0) rfl (heap_alloc_new w3 _) rfl one7 HE0.out HX.out (by omega) (Nat.zero_le _) ?_
          intro g cap w9 o5 g5 e5
          rw [HLL.out] at o5 ⊢
          have X9 := hmk (XA.out.store (SX := NoB) (ms' := M10 ++ [(kFrom, strV fr)]) (by omega) HS.out (by rw [List.map_append]; exact o5) g5 (by first | exact e5 | (rw [alloc_size]; exact e5)) (fun b (h : NoB b) => False.elim h))
          have f5 : w9.heap[w.heap.size + 1 + 1 + 1]? = _ := (g5.block (w.heap.size + 3) (Nat.lt_of_lt_of_le (show w.heap.size + 3 < W0.heap.size by omega) XA.out.gr.size) (fun e => by have := XA.out.fl _ e.symm; omega)).trans XA.out.bx
          have e6 : w9.cell? ⟨w.heap.size + 1 + 1 + 1, 5, none⟩ = some (.slice none 0 0) := by rw [cell_of_block f5]; rfl
          have e7 : w9.frozen? ⟨w.heap.size + 1 + 1 + 1, 5, none⟩ = false := frozen_of_block f5 5
          have K5 : Hid (KeepB W0 (fun b => b = w.heap.size) w9) := (KP.out _ BA).grown g5 (fun b hb => ⟨Nat.lt_of_lt_of_le (HA.out b hb).1 BA.size, (HA.out b hb).2.2⟩)
          have K6 : Hid (∀ u, KeepB W0 (fun b => b = w.heap.size) (w9.setCell ⟨w.heap.size + 1 + 1 + 1, 5, none⟩ u)) := fun u => K5.out.set (fun b hb => (HA.out b hb).2.1) 5 u
          refine hK.out _ _ K5.out (fun hHeld => ?_)
          clear hK K f5
          (try simp only [Act.put, List.setIfInBounds_toArray, List.set_cons_zero, List.set_cons_succ])
          (refine wpAnyH_take (i := 8) (v := ?_) rfl (by kernel_rfl) (by kernel_rfl) (by kernel_rfl) (fun _ _ _ h => h) (Or.inl ⟨by kernel_rfl, ?_⟩) (by assumption) ?_; rotate_left 1; (intro W0 hSw; (try dsimp only at hSw); go_simp; (try with_reducible rfl)); (try simp only [Act.put, List.setIfInBounds_toArray, List.set_cons_zero, List.set_cons_succ]))
          refine wpAnyH_ready (rs := [9]) (by kernel_rfl) (by simp) ?_
          refine AllReadyH.cons rfl (fun K hK => ?_) AllReadyH.nil
          go_simp
          refine hK.out _ _ (K6.out _) (fun hHeld => ?_)
          clear hK K
          (try simp only [Act.put, List.setIfInBounds_toArray, List.set_cons_zero, List.set_cons_succ])
          refine wpAnyH_done (by kernel_rfl) ?_ _
          (try dsimp only [Act.put, List.getElem_toArray, List.getElem_cons_succ, List.getElem_cons_zero, List.setIfInBounds_toArray, List.set_cons_zero, List.set_cons_succ])
          clear hHeld K5 K6 e6 e7 XA HX o5 g5 e5
          go_wp2_with fail
          go_meet
          exact ⟨_, g, cap, X9⟩
        · have bA : Below w3.heap.size w3 (w3.alloc (.cells #[.string kFrom, .int .i64 3, .bool false, .int .i64 0, .string fr, .slice none 0 0, .slice none 0 0] 45)) := (Below.refl _ _).alloc (Nat.le_refl _) _
          have BA : Below W0.heap.size W0 (w3.alloc (.cells #[.string kFrom, .int .i64 3, .bool false, .int .i64 0, .string fr, .slice none 0 0, .slice none 0 0] 45)) := B3.trans (bA.mono B3.size)
          go_simp
          refine hK.out _ _ (KP.out _ BA) (fun hHeld => ?_)
          clear hK K
          (try simp only [Act.put, List.setIfInBounds_toArray, List.set_cons_zero, List.set_cons_succ])
          refine wpAnyH_ready (rs := [1]) (by kernel_rfl) (by simp) ?_
          refine AllReadyH.cons rfl (fun K hK => ?_) AllReadyH.nil
          have m5 := HM5.out _ BA
          go_simp
          refine hK.out _ _ (KP.out _ BA) (fun hHeld => ?_)
          clear hK K m5
          (try simp only [Act.put, List.setIfInBounds_toArray, List.set_cons_zero, List.set_cons_succ])
          have XA := hmk (XX10.out.below (show w.heap.size + 3 < W0.heap.size by omega) BA)
          have HE0 : Hid (EM false (some (kFrom, strV fr)) (w3.alloc (.cells #[.string kFrom, .int .i64 3, .bool false, .int .i64 0, .string fr, .slice none 0 0, .slice none 0 0] 45)) NoB [.string kFrom, .int .i64 3, .bool false, .int .i64 0, .string fr, .slice none 0 0, .slice none 0 0]) := ⟨_, rfl, (show (kFrom : ByteArray).size ≤ maxLen by decide), str_lies fr h3 _ _⟩
          have HX : Hid (∀ b, NoB b → 0 ≤ b ∧ b < (w3.alloc (.cells #[.string kFrom, .int .i64 3, .bool false, .int .i64 0, .string fr, .slice none 0 0, .slice none 0 0] 45)).heap.size ∧ some b ≠ (.slice none 0 0 : Value).ownBlock) := fun b (h : NoB b) => False.elim h
          refine wpAnyH_ready (rs := [7]) (by kernel_rfl) (by simp) ?_
          refine AllReadyH.cons rfl (fun K hK => ?_) AllReadyH.nil
          refine step_push (keepM false) rfl (.tmp 15) (.tmp 20) 23 rfl 0 i1 _ 104 Tryz.underlying23 hJ.out.1 hJ.out.2.1 hJ.out.2.2.1 hJ.out.2.2.2 rfl (by decide) (by decide) (.slice none 0 0) (some (kFrom, strV fr)) rfl XA.out.ow w3.heap.size 1 (0, 0) rfl (heap_alloc_new w3 _) rfl one7 HE0.out HX.out (by omega) (Nat.zero_le _) ?_
          intro g cap w9 o5 g5 e5
          rw [HLL.out] at o5 ⊢
          have X9 := hmk (XA.out.store (SX := NoB) (ms' := M10 ++ [(kFrom, strV fr)]) (by omega) HS.out (by rw [List.map_append]; exact o5) g5 (by first | exact e5 | (rw [alloc_size]; exact e5)) (fun b (h : NoB b) => False.elim h))
          have f5 : w9.heap[w.heap.size + 1 + 1 + 1]? = _ := (g5.block (w.heap.size + 3) (Nat.lt_of_lt_of_le (show w.heap.size + 3 < W0.heap.size by omega) XA.out.gr.size) (fun e => by have := XA.out.fl _ e.symm; omega)).trans XA.out.bx
          have e6 : w9.cell? ⟨w.heap.size + 1 + 1 + 1, 5, none⟩ = some (.slice none 0 0) := by rw [cell_of_block f5]; rfl
          have e7 : w9.frozen? ⟨w.heap.size + 1 + 1 + 1, 5, none⟩ = false := frozen_of_block f5 5
          have K5 : Hid (KeepB W0 (fun b => b = w.heap.size) w9) := (KP.out _ BA).grown g5 (fun b hb => ⟨Nat.lt_of_lt_of_le (HA.out b hb).1 BA.size, (HA.out b hb).2.2⟩)
          have K6 : Hid (∀ u, KeepB W0 (fun b => b = w.heap.size) (w9.setCell ⟨w.heap.size + 1 + 1 + 1, 5, none⟩ u)) := fun u => K5.out.set (fun b hb => (HA.out b hb).2.1) 5 u
          refine hK.out _ _ K5.out (fun hHeld => ?_)
          clear hK K f5
          (try simp only [Act.put, List.setIfInBounds_toArray, List.set_cons_zero, List.set_cons_succ])
          (refine wpAnyH_take (i := 8) (v := ?_) rfl (by kernel_rfl) (by kernel_rfl) (by kernel_rfl) (fun _ _ _ h => h) (Or.inl ⟨by kernel_rfl, ?_⟩) (by assumption) ?_; rotate_left 1; (intro W0 hSw; (try dsimp only at hSw); go_simp; (try with_reducible rfl)); (try simp only [Act.put, List.setIfInBounds_toArray, List.set_cons_zero, List.set_cons_succ]))
          refine wpAnyH_ready (rs := [9]) (by kernel_rfl) (by simp) ?_
          refine AllReadyH.cons rfl (fun K hK => ?_) AllReadyH.nil
          go_simp
          refine hK.out _ _ (K6.out _) (fun hHeld => ?_)
          clear hK K
          (try simp only [Act.put, List.setIfInBounds_toArray, List.set_cons_zero, List.set_cons_succ])
          refine wpAnyH_done (by kernel_rfl) ?_ _
          (try dsimp only [Act.put, List.getElem_toArray, List.getElem_cons_succ, List.getElem_cons_zero, List.setIfInBounds_toArray, List.set_cons_zero, List.set_cons_succ])
          clear hHeld K5 K6 e6 e7 XA HX o5 g5 e5
          go_wp2_with fail
          go_meet
          exact ⟨_, g, cap, X9⟩
    case rest =>
      rename World => y10
      obtain ⟨SN10, g10, cap10, X10⟩ := hcut
      clear HM5 HA KP BD hn10 HLL XX10 a0 a1 a2 a3 a4 a5 a6 a7 a8 BW zW
      go_upto_region 4 with fail
      obtain ⟨SM20, M20, XX20, HM20⟩ : ∃ (SM : Nat → Prop) (M : List Mem), Hid (Wst W0 (w.heap.size + 3) S SM M (.slice (some ⟨g10, 0, none⟩) n10 cap10) y10) ∧ Hid (M = M10 ++ [(kFrom, strV fr)]) := ⟨_, _, X10, rfl⟩
      clear X10
      obtain ⟨NS, _, _, _, BW⟩ := HK.out y10 XX20.out.gr
      have zW := XX20.out.gr.size
      have a0 : y10.cell? ⟨w.heap.size, 0, none⟩ = some (.string op) := by rw [cell_of_block NS]; rfl
      have a1 : y10.cell? ⟨w.heap.size, 1, none⟩ = some (.string pa) := by rw [cell_of_block NS]; rfl
      have a2 : y10.cell? ⟨w.heap.size, 2, none⟩ = some (.string fr) := by rw [cell_of_block NS]; rfl
      have a3 : y10.cell? ⟨w.heap.size, 3, none⟩ = some (.int .i64 vk) := by rw [cell_of_block NS]; rfl
      have a4 : y10.cell? ⟨w.heap.size, 4, none⟩ = some (.bool vb) := by rw [cell_of_block NS]; rfl
      have a5 : y10.cell? ⟨w.heap.size, 5, none⟩ = some (.int .i64 vi) := by rw [cell_of_block NS]; rfl
      have a6 : y10.cell? ⟨w.heap.size, 6, none⟩ = some (.string vs) := by rw [cell_of_block NS]; rfl
      have a7 : y10.cell? ⟨w.heap.size, 7, none⟩ = some (.slice val vnl vcl) := by rw [cell_of_block NS]; rfl
      have a8 : y10.cell? ⟨w.heap.size, 8, none⟩ = some (.slice vam vnm vcm) := by rw [cell_of_block NS]; rfl
      clear NS
      have HM5 : Hid (∀ W', Below y10.heap.size y10 W' → W'.cell? ⟨w.heap.size + 1 + 1 + 1, 5, none⟩ = some (.slice (some ⟨g10, 0, none⟩) n10 cap10)) := fun W' h => by rw [cell_of_block (b := w.heap.size + 1 + 1 + 1) (XX20.out.below (by omega) h).bx]; rfl
      have HA : Hid (∀ b, (fun b => b = w.heap.size) b → b < y10.heap.size ∧ b ≠ w.heap.size + 3 ∧ some b ≠ (.slice (some ⟨g10, 0, none⟩) n10 cap10 : Value).ownBlock) := fun b hb => by
        subst hb
        exact ⟨by omega, by omega, fun e => by have := XX20.out.fl _ e.symm; omega⟩
      have KP : Hid (∀ W', Below y10.heap.size y10 W' → KeepB y10 (fun b => b = w.heap.size) W') := fun W' hb => (KeepB.refl y10 _).below hb (fun b h => (HA.out b h).1)
      have BD : Hid (Below y10.heap.size y10 y10.drew) := (Below.refl _ _).drew
      have hll : (M20.map some).length = M20.length := List.length_map ..
      obtain ⟨n20, hnn⟩ : ∃ n, M20.length + 2 = n := ⟨_, rfl⟩
      have hn20 : (M20.map some).length ≤ 4294967290 := by rw [hll, HM20.out]; simp [HM10.out]
      have HLL : Hid ((M20.map some).length + 2 = n20) := by show _ = _; rw [hll]; exact hnn
      clear hll hnn
      go_cut [35] (fun e35 wx => ∃ (SM : Nat → Prop) (g cap : Nat), Hid (Wst W0 (w.heap.size + 3) S SM (M20 ++ [(kOp, strV op), (kPath, strV pa)]) (.slice (some ⟨g, 0, none⟩) n20 cap) wx))
      case first =>
        refine wp_region_held_drew (S := KeepB y10 (fun b => b = w.heap.size)) (by kernel_rfl) (KeepB.drew _ _) (fun hHeld => ?_)
        (refine wpAnyH_take (i := 0) (v := ?_) rfl (by kernel_rfl) (by kernel_rfl) (by kernel_rfl) (fun _ _ _ h => h) (Or.inl ⟨by kernel_rfl, ?_⟩) (by assumption) ?_; rotate_left 1; (intro W0 hSw; (try dsimp only at hSw); go_simp; (try with_reducible rfl)); (try simp only [Act.put, List.setIfInBounds_toArray, List.set_cons_zero, List.set_cons_succ]))
        (refine wpAnyH_take (i := 2) (v := ?_) rfl (by kernel_rfl) (by kernel_rfl) (by kernel_rfl) (fun _ _ _ h => h) (Or.inl ⟨by kernel_rfl, ?_⟩) (by assumption) ?_; rotate_left 1; (intro W0 hSw; (try dsimp only at hSw); go_simp; (try with_reducible rfl)); (try simp only [Act.put, List.setIfInBounds_toArray, List.set_cons_zero, List.set_cons_succ]))
        (refine wpAnyH_take (i := 3) (v := ?_) rfl (by kernel_rfl) (by kernel_rfl) (by kernel_rfl) (fun _ _ _ h => h) (Or.inl ⟨by kernel_rfl, ?_⟩) (by assumption) ?_; rotate_left 1; (intro W0 hSw; have z := hSw.cell rfl a0; go_simp; (try with_reducible rfl)); (try simp only [Act.put, List.setIfInBounds_toArray, List.set_cons_zero, List.set_cons_succ]))
        (refine wpAnyH_take (i := 6) (v := ?_) rfl (by kernel_rfl) (by kernel_rfl) (by kernel_rfl) (fun _ _ _ h => h) (Or.inl ⟨by kernel_rfl, ?_⟩) (by assumption) ?_; rotate_left 1; (intro W0 hSw; (try dsimp only at hSw); go_simp; (try with_reducible rfl)); (try simp only [Act.put, List.setIfInBounds_toArray, List.set_cons_zero, List.set_cons_succ]))
        (refine wpAnyH_take (i := 7) (v := ?_) rfl (by kernel_rfl) (by kernel_rfl) (by kernel_rfl) (fun _ _ _ h => h) (Or.inl ⟨by kernel_rfl, ?_⟩) (by assumption) ?_; rotate_left 1; (intro W0 hSw; have z := hSw.cell rfl a1; go_simp; (try with_reducible rfl)); (try simp only [Act.put, List.setIfInBounds_toArray, List.set_cons_zero, List.set_cons_succ]))
        refine wpAnyH_ready (rs := [1, 4]) (by kernel_rfl) (by simp) ?_
        refine AllReadyH.cons rfl (fun K hK => ?_) (AllReadyH.cons rfl (fun K hK => ?_) AllReadyH.nil)
        · have m5 := HM5.out _ BD.out
          go_simp
          refine hK.out _ _ (KP.out _ BD.out) (fun hHeld => ?_)
          clear hK K m5
          (try simp only [Act.put, List.setIfInBounds_toArray, List.set_cons_zero, List.set_cons_succ])
          refine wpAnyH_ready (rs := [4]) (by kernel_rfl) (by simp) ?_
          refine AllReadyH.cons rfl (fun K hK => ?_) AllReadyH.nil
          go_simp
          refine (str_any op _).mono ?_
          rintro e w3 ⟨rfl, b3⟩
          have B3 : Below y10.heap.size y10 w3 := (BD.out).trans (b3.mono (BD.out).size)
          go_wp2_with fail
          refine hK.out _ _ (KP.out _ B3) (fun hHeld => ?_)
          clear hK K
          (try simp only [Act.put, List.setIfInBounds_toArray, List.set_cons_zero, List.set_cons_succ])
          (refine wpAnyH_take (i := 5) (v := ?_) rfl (by kernel_rfl) (by kernel_rfl) (by kernel_rfl) (fun _ _ _ h => h) (Or.inl ⟨by kernel_rfl, ?_⟩) (by assumption) ?_; rotate_left 1; (intro W0 hSw; (try dsimp only at hSw); go_simp; (try with_reducible rfl)); (try simp only [Act.put, List.setIfInBounds_toArray, List.set_cons_zero, List.set_cons_succ]))
          refine wpAnyH_ready (rs := [8]) (by kernel_rfl) (by simp) ?_
          refine AllReadyH.cons rfl (fun K hK => ?_) AllReadyH.nil
          go_simp
          refine (str_any pa _).mono ?_
          rintro e w4 ⟨rfl, b4⟩
          have B4 : Below y10.heap.size y10 w4 := (B3).trans (b4.mono (B3).size)
          go_wp2_with fail
          refine hK.out _ _ (KP.out _ B4) (fun hHeld => ?_)
          clear hK K
          (try simp only [Act.put, List.setIfInBounds_toArray, List.set_cons_zero, List.set_cons_succ])
          (refine wpAnyH_take (i := 9) (v := ?_) rfl (by kernel_rfl) (by kernel_rfl) (by kernel_rfl) (fun _ _ _ h => h) (Or.inl ⟨by kernel_rfl, ?_⟩) (by assumption) ?_; rotate_left 1; (intro W0 hSw; (try dsimp only at hSw); go_simp; (try with_reducible rfl)); (try simp only [Act.put, List.setIfInBounds_toArray, List.set_cons_zero, List.set_cons_succ]))
          refine wpAnyH_ready (rs := [10]) (by kernel_rfl) (by simp) ?_
          refine AllReadyH.cons rfl (fun K hK => ?_) AllReadyH.nil
          have bA : Below w4.heap.size w4 (w4.alloc (.cells #[.string kOp, .int .i64 3, .bool false, .int .i64 0, .string op, .slice none 0 0, .slice none 0 0, .string kPath, .int .i64 3, .bool false, .int .i64 0, .string pa, .slice none 0 0, .slice none 0 0] 45)) := (Below.refl _ _).alloc (Nat.le_refl _) _
          have BA : Below y10.heap.size y10 (w4.alloc (.cells #[.string kOp, .int .i64 3, .bool false, .int .i64 0, .string op, .slice none 0 0, .slice none 0 0, .string kPath, .int .i64 3, .bool false, .int .i64 0, .string pa, .slice none 0 0, .slice none 0 0] 45)) := B4.trans (bA.mono B4.size)
          go_simp
          refine hK.out _ _ (KP.out _ BA) (fun hHeld => ?_)
          clear hK K
          (try simp only [Act.put, List.setIfInBounds_toArray, List.set_cons_zero, List.set_cons_succ])
          have XA := hmk (XX20.out.below (show w.heap.size + 3 < W0.heap.size by omega) BA)
          have HE0 : Hid (EM false (some (kOp, strV op)) (w4.alloc (.cells #[.string kOp, .int .i64 3, .bool false, .int .i64 0, .string op, .slice none 0 0, .slice none 0 0, .string kPath, .int .i64 3, .bool false, .int .i64 0, .string pa, .slice none 0 0, .slice none 0 0] 45)) NoB [.string kOp, .int .i64 3, .bool false, .int .i64 0, .string op, .slice none 0 0, .slice none 0 0]) := ⟨_, rfl, (show (kOp : ByteArray).size ≤ maxLen by decide), str_lies op h1 _ _⟩
          have HE1 : Hid (EM false (some (kPath, strV pa)) (w4.alloc (.cells #[.string kOp, .int .i64 3, .bool false, .int .i64 0, .string op, .slice none 0 0, .slice none 0 0, .string kPath, .int .i64 3, .bool false, .int .i64 0, .string pa, .slice none 0 0, .slice none 0 0] 45)) NoB [.string kPath, .int .i64 3, .bool false, .int .i64 0, .string pa, .slice none 0 0, .slice none 0 0]) := ⟨_, rfl, (show (kPath : ByteArray).size ≤ maxLen by decide), str_lies pa h2 _ _⟩
          have HX : Hid (∀ b, NoB b → 0 ≤ b ∧ b < (w4.alloc (.cells #[.string kOp, .int .i64 3, .bool false, .int .i64 0, .string op, .slice none 0 0, .slice none 0 0, .string kPath, .int .i64 3, .bool false, .int .i64 0, .string pa, .slice none 0 0, .slice none 0 0] 45)).heap.size ∧ some b ≠ (.slice (some ⟨g10, 0, none⟩) n10 cap10 : Value).ownBlock) := fun b (h : NoB b) => False.elim h
          refine wpAnyH_ready (rs := [11]) (by kernel_rfl) (by simp) ?_
          refine AllReadyH.cons rfl (fun K hK => ?_) AllReadyH.nil
          refine step_push2 (keepM false) rfl (.tmp 24) (.tmp 33) 23 rfl 0 i1 _ 104 Tryz.underlying23 hJ.out.1 hJ.out.2.1 hJ.out.2.2.1 hJ.out.2.2.2 rfl (by decide) (by decide) (.slice (some ⟨g10, 0, none⟩) n10 cap10) (some (kOp, strV op)) (some (kPath, strV pa)) (cx := [.string kOp, .int .i64 3, .bool false, .int .i64 0, .string op, .slice none 0 0, .slice none 0 0]) (cy := [.string kPath, .int .i64 3, .bool false, .int .i64 0, .string pa, .slice none 0 0, .slice none 0 0]) rfl XA.out.ow w4.heap.size 2 (0, 0) rfl (heap_alloc_new w4 _) rfl rfl one14 HE0.out HE1.out HX.out hn20 (Nat.zero_le _) ?_
          intro g cap w9 o5 g5 e5
          rw [HLL.out] at o5 ⊢
          have X9 := hmk (XA.out.store (SX := NoB) (ms' := M20 ++ [(kOp, strV op), (kPath, strV pa)]) (by omega) HS.out (by rw [List.map_append]; exact o5) g5 (by first | exact e5 | (rw [alloc_size]; exact e5)) (fun b (h : NoB b) => False.elim h))
          have f5 : w9.heap[w.heap.size + 1 + 1 + 1]? = _ := (g5.block (w.heap.size + 3) (Nat.lt_of_lt_of_le (show w.heap.size + 3 < W0.heap.size by omega) XA.out.gr.size) (fun e => by have := XA.out.fl _ e.symm; omega)).trans XA.out.bx
          have e6 : w9.cell? ⟨w.heap.size + 1 + 1 + 1, 5, none⟩ = some (.slice (some ⟨g10, 0, none⟩) n10 cap10) := by rw [cell_of_block f5]; rfl
          have e7 : w9.frozen? ⟨w.heap.size + 1 + 1 + 1, 5, none⟩ = false := frozen_of_block f5 5
          have K5 : Hid (KeepB y10 (fun b => b = w.heap.size) w9) := (KP.out _ BA).grown g5 (fun b hb => ⟨Nat.lt_of_lt_of_le (HA.out b hb).1 BA.size, (HA.out b hb).2.2⟩)
          have K6 : Hid (∀ u, KeepB y10 (fun b => b = w.heap.size) (w9.setCell ⟨w.heap.size + 1 + 1 + 1, 5, none⟩ u)) := fun u => K5.out.set (fun b hb => (HA.out b hb).2.1) 5 u
          refine hK.out _ _ K5.out (fun hHeld => ?_)
          clear hK K f5
          (try simp only [Act.put, List.setIfInBounds_toArray, List.set_cons_zero, List.set_cons_succ])
          (refine wpAnyH_take (i := 12) (v := ?_) rfl (by kernel_rfl) (by kernel_rfl) (by kernel_rfl) (fun _ _ _ h => h) (Or.inl ⟨by kernel_rfl, ?_⟩) (by assumption) ?_; rotate_left 1; (intro W0 hSw; (try dsimp only at hSw); go_simp; (try with_reducible rfl)); (try simp only [Act.put, List.setIfInBounds_toArray, List.set_cons_zero, List.set_cons_succ]))
          refine wpAnyH_ready (rs := [13]) (by kernel_rfl) (by simp) ?_
          refine AllReadyH.cons rfl (fun K hK => ?_) AllReadyH.nil
          go_simp
          refine hK.out _ _ (K6.out _) (fun hHeld => ?_)
          clear hK K
          (try simp only [Act.put, List.setIfInBounds_toArray, List.set_cons_zero, List.set_cons_succ])
          refine wpAnyH_done (by kernel_rfl) ?_ _
          (try dsimp only [Act.put, List.getElem_toArray, List.getElem_cons_succ, List.getElem_cons_zero, List.setIfInBounds_toArray, List.set_cons_zero, List.set_cons_succ])
          clear hHeld K5 K6 e6 e7 XA HX o5 g5 e5
          go_wp2_with fail
          go_meet
          exact ⟨_, g, cap, X9⟩
        · go_simp
          refine (str_any op _).mono ?_
          rintro e w3 ⟨rfl, b3⟩
          have B3 : Below y10.heap.size y10 w3 := (BD.out).trans (b3.mono (BD.out).size)
          go_wp2_with fail
          refine hK.out _ _ (KP.out _ B3) (fun hHeld => ?_)
          clear hK K
          (try simp only [Act.put, List.setIfInBounds_toArray, List.set_cons_zero, List.set_cons_succ])
          (refine wpAnyH_take (i := 5) (v := ?_) rfl (by kernel_rfl) (by kernel_rfl) (by kernel_rfl) (fun _ _ _ h => h) (Or.inl ⟨by kernel_rfl, ?_⟩) (by assumption) ?_; rotate_left 1; (intro W0 hSw; (try dsimp only at hSw); go_simp; (try with_reducible rfl)); (try simp only [Act.put, List.setIfInBounds_toArray, List.set_cons_zero, List.set_cons_succ]))
          refine wpAnyH_ready (rs := [1, 8]) (by kernel_rfl) (by simp) ?_
          refine AllReadyH.cons rfl (fun K hK => ?_) (AllReadyH.cons rfl (fun K hK => ?_) AllReadyH.nil)
          · have m5 := HM5.out _ B3
            go_simp
            refine hK.out _ _ (KP.out _ B3) (fun hHeld => ?_)
            clear hK K m5
            (try simp only [Act.put, List.setIfInBounds_toArray, List.set_cons_zero, List.set_cons_succ])
            refine wpAnyH_ready (rs := [8]) (by kernel_rfl) (by simp) ?_
            refine AllReadyH.cons rfl (fun K hK => ?_) AllReadyH.nil
            go_simp
            refine (str_any pa _).mono ?_
            rintro e w4 ⟨rfl, b4⟩
            have B4 : Below y10.heap.size y10 w4 := (B3).trans (b4.mono (B3).size)
            go_wp2_with fail
            refine hK.out _ _ (KP.out _ B4) (fun hHeld => ?_)
            clear hK K
            (try simp only [Act.put, List.setIfInBounds_toArray, List.set_cons_zero, List.set_cons_succ])
            (refine wpAnyH_take (i := 9) (v := ?_) rfl (by kernel_rfl) (by kernel_rfl) (by kernel_rfl) (fun _ _ _ h => h) (Or.inl ⟨by kernel_rfl, ?_⟩) (by assumption) ?_; rotate_left 1; (intro W0 hSw; (try dsimp only at hSw); go_simp; (try with_reducible rfl)); (try simp only [Act.put, List.setIfInBounds_toArray, List.set_cons_zero, List.set_cons_succ]))
            refine wpAnyH_ready (rs := [10]) (by kernel_rfl) (by simp) ?_
            refine AllReadyH.cons rfl (fun K hK => ?_) AllReadyH.nil
            have bA : Below w4.heap.size w4 (w4.alloc (.cells #[.string kOp, .int .i64 3, .bool false, .int .i64 0, .string op, .slice none 0 0, .slice none 0 0, .string kPath, .int .i64 3, .bool false, .int .i64 0, .string pa, .slice none 0 0, .slice none 0 0] 45)) := (Below.refl _ _).alloc (Nat.le_refl _) _
            have BA : Below y10.heap.size y10 (w4.alloc (.cells #[.string kOp, .int .i64 3, .bool false, .int .i64 0, .string op, .slice none 0 0, .slice none 0 0, .string kPath, .int .i64 3, .bool false, .int .i64 0, .string pa, .slice none 0 0, .slice none 0 0] 45)) := B4.trans (bA.mono B4.size)
            go_simp
            refine hK.out _ _ (KP.out _ BA) (fun hHeld => ?_)
            clear hK K
            (try simp only [Act.put, List.setIfInBounds_toArray, List.set_cons_zero, List.set_cons_succ])
            have XA := hmk (XX20.out.below (show w.heap.size + 3 < W0.heap.size by omega) BA)
            have HE0 : Hid (EM false (some (kOp, strV op)) (w4.alloc (.cells #[.string kOp, .int .i64 3, .bool false, .int .i64 0, .string op, .slice none 0 0, .slice none 0 0, .string kPath, .int .i64 3, .bool false, .int .i64 0, .string pa, .slice none 0 0, .slice none 0 0] 45)) NoB [.string kOp, .int .i64 3, .bool false, .int .i64 0, .string op, .slice none 0 0, .slice none 0 0]) := ⟨_, rfl, (show (kOp : ByteArray).size ≤ maxLen by decide), str_lies op h1 _ _⟩
            have HE1 : Hid (EM false (some (kPath, strV pa)) (w4.alloc (.cells #[.string kOp, .int .i64 3, .bool false, .int .i64 0, .string op, .slice none 0 0, .slice none 0 0, .string kPath, .int .i64 3, .bool false, .int .i64 0, .string pa, .slice none 0 0, .slice none 0 0] 45)) NoB [.string kPath, .int .i64 3, .bool false, .int .i64 0, .string pa, .slice none 0 0, .slice none 0 0]) := ⟨_, rfl, (show (kPath : ByteArray).size ≤ maxLen by decide), str_lies pa h2 _ _⟩
            have HX : Hid (∀ b, NoB b → 0 ≤ b ∧ b < (w4.alloc (.cells #[.string kOp, .int .i64 3, .bool false, .int .i64 0, .string op, .slice none 0 0, .slice none 0 0, .string kPath, .int .i64 3, .bool false, .int .i64 0, .string pa, .slice none 0 0, .slice none 0 0] 45)).heap.size ∧ some b ≠ (.slice (some ⟨g10, 0, none⟩) n10 cap10 : Value).ownBlock) := fun b (h : NoB b) => False.elim h
            refine wpAnyH_ready (rs := [11]) (by kernel_rfl) (by simp) ?_
            refine AllReadyH.cons rfl (fun K hK => ?_) AllReadyH.nil
            refine step_push2 (keepM false) rfl (.tmp 24) (.tmp 33) 23 rfl 0 i1 _ 104 Tryz.underlying23 hJ.out.1 hJ.out.2.1 hJ.out.2.2.1 hJ.out.2.2.2 rfl (by decide) (by decide) (.slice (some ⟨g10, 0, none⟩) n10 cap10) (some (kOp, strV op)) (some (kPath, strV pa)) (cx := [.string kOp, .int .i64 3, .bool false, .int .i64 0, .string op, .slice none 0 0, .slice none 0 0]) (cy := [.string kPath, .int .i64 3, .bool false, .int .i64 0, .string pa, .slice none 0 0, .slice none 0 0]) rfl XA.out.ow w4.heap.size 2 (0, 0) rfl (heap_alloc_new w4 _) rfl rfl one14 HE0.out HE1.out HX.out hn20 (Nat.zero_le _) ?_
            intro g cap w9 o5 g5 e5
            rw [HLL.out] at o5 ⊢
            have X9 := hmk (XA.out.store (SX := NoB) (ms' := M20 ++ [(kOp, strV op), (kPath, strV pa)]) (by omega) HS.out (by rw [List.map_append]; exact o5) g5 (by first | exact e5 | (rw [alloc_size]; exact e5)) (fun b (h : NoB b) => False.elim h))
            have f5 : w9.heap[w.heap.size + 1 + 1 + 1]? = _ := (g5.block (w.heap.size + 3) (Nat.lt_of_lt_of_le (show w.heap.size + 3 < W0.heap.size by omega) XA.out.gr.size) (fun e => by have := XA.out.fl _ e.symm; omega)).trans XA.out.bx
            have e6 : w9.cell? ⟨w.heap.size + 1 + 1 + 1, 5, none⟩ = some (.slice (some ⟨g10, 0, none⟩) n10 cap10) := by rw [cell_of_block f5]; rfl
            have e7 : w9.frozen? ⟨w.heap.size + 1 + 1 + 1, 5, none⟩ = false := frozen_of_block f5 5
            have K5 : Hid (KeepB y10 (fun b => b = w.heap.size) w9) := (KP.out _ BA).grown g5 (fun b hb => ⟨Nat.lt_of_lt_of_le (HA.out b hb).1 BA.size, (HA.out b hb).2.2⟩)
            have K6 : Hid (∀ u, KeepB y10 (fun b => b = w.heap.size) (w9.setCell ⟨w.heap.size + 1 + 1 + 1, 5, none⟩ u)) := fun u => K5.out.set (fun b hb => (HA.out b hb).2.1) 5 u
            refine hK.out _ _ K5.out (fun hHeld => ?_)
            clear hK K f5
            (try simp only [Act.put, List.setIfInBounds_toArray, List.set_cons_zero, List.set_cons_succ])
            (refine wpAnyH_take (i := 12) (v := ?_) rfl (by kernel_rfl) (by kernel_rfl) (by kernel_rfl) (fun _ _ _ h => h) (Or.inl ⟨by kernel_rfl, ?_⟩) (by assumption) ?_; rotate_left 1; (intro W0 hSw; (try dsimp only at hSw); go_simp; (try with_reducible rfl)); (try simp only [Act.put, List.setIfInBounds_toArray, List.set_cons_zero, List.set_cons_succ]))
            refine wpAnyH_ready (rs := [13]) (by kernel_rfl) (by simp) ?_
            refine AllReadyH.cons rfl (fun K hK => ?_) AllReadyH.nil
            go_simp
            refine hK.out _ _ (K6.out _) (fun hHeld => ?_)
            clear hK K
            (try simp only [Act.put, List.setIfInBounds_toArray, List.set_cons_zero, List.set_cons_succ])
            refine wpAnyH_done (by kernel_rfl) ?_ _
            (try dsimp only [Act.put, List.getElem_toArray, List.getElem_cons_succ, List.getElem_cons_zero, List.setIfInBounds_toArray, List.set_cons_zero, List.set_cons_succ])
            clear hHeld K5 K6 e6 e7 XA HX o5 g5 e5
            go_wp2_with fail
            go_meet
            exact ⟨_, g, cap, X9⟩
          · go_simp
            refine (str_any pa _).mono ?_
            rintro e w4 ⟨rfl, b4⟩
            have B4 : Below y10.heap.size y10 w4 := (B3).trans (b4.mono (B3).size)
            go_wp2_with fail
            refine hK.out _ _ (KP.out _ B4) (fun hHeld => ?_)
            clear hK K
            (try simp only [Act.put, List.setIfInBounds_toArray, List.set_cons_zero, List.set_cons_succ])
            (refine wpAnyH_take (i := 9) (v := ?_) rfl (by kernel_rfl) (by kernel_rfl) (by kernel_rfl) (fun _ _ _ h => h) (Or.inl ⟨by kernel_rfl, ?_⟩) (by assumption) ?_; rotate_left 1; (intro W0 hSw; (try dsimp only at hSw); go_simp; (try with_reducible rfl)); (try simp only [Act.put, List.setIfInBounds_toArray, List.set_cons_zero, List.set_cons_succ]))
            refine wpAnyH_ready (rs := [1, 10]) (by kernel_rfl) (by simp) ?_
            refine AllReadyH.cons rfl (fun K hK => ?_) (AllReadyH.cons rfl (fun K hK => ?_) AllReadyH.nil)
            · have m5 := HM5.out _ B4
              go_simp
              refine hK.out _ _ (KP.out _ B4) (fun hHeld => ?_)
              clear hK K m5
              (try simp only [Act.put, List.setIfInBounds_toArray, List.set_cons_zero, List.set_cons_succ])
              refine wpAnyH_ready (rs := [10]) (by kernel_rfl) (by simp) ?_
              refine AllReadyH.cons rfl (fun K hK => ?_) AllReadyH.nil
              have bA : Below w4.heap.size w4 (w4.alloc (.cells #[.string kOp, .int .i64 3, .bool false, .int .i64 0, .string op, .slice none 0 0, .slice none 0 0, .string kPath, .int .i64 3, .bool false, .int .i64 0, .string pa, .slice none 0 0, .slice none 0 0] 45)) := (Below.refl _ _).alloc (Nat.le_refl _) _
              have BA : Below y10.heap.size y10 (w4.alloc (.cells #[.string kOp, .int .i64 3, .bool false, .int .i64 0, .string op, .slice none 0 0, .slice none 0 0, .string kPath, .int .i64 3, .bool false, .int .i64 0, .string pa, .slice none 0 0, .slice none 0 0] 45)) := B4.trans (bA.mono B4.size)
              go_simp
              refine hK.out _ _ (KP.out _ BA) (fun hHeld => ?_)
              clear hK K
              (try simp only [Act.put, List.setIfInBounds_toArray, List.set_cons_zero, List.set_cons_succ])
              have XA := hmk (XX20.out.below (show w.heap.size + 3 < W0.heap.size by omega) BA)
              have HE0 : Hid (EM false (some (kOp, strV op)) (w4.alloc (.cells #[.string kOp, .int .i64 3, .bool false, .int .i64 0, .string op, .slice none 0 0, .slice none 0 0, .string kPath, .int .i64 3, .bool false, .int .i64 0, .string pa, .slice none 0 0, .slice none 0 0] 45)) NoB [.string kOp, .int .i64 3, .bool false, .int .i64 0, .string op, .slice none 0 0, .slice none 0 0]) := ⟨_, rfl, (show (kOp : ByteArray).size ≤ maxLen by decide), str_lies op h1 _ _⟩
              have HE1 : Hid (EM false (some (kPath, strV pa)) (w4.alloc (.cells #[.string kOp, .int .i64 3, .bool false, .int .i64 0, .string op, .slice none 0 0, .slice none 0 0, .string kPath, .int .i64 3, .bool false, .int .i64 0, .string pa, .slice none 0 0, .slice none 0 0] 45)) NoB [.string kPath, .int .i64 3, .bool false, .int .i64 0, .string pa, .slice none 0 0, .slice none 0 0]) := ⟨_, rfl, (show (kPath : ByteArray).size ≤ maxLen by decide), str_lies pa h2 _ _⟩
              have HX : Hid (∀ b, NoB b → 0 ≤ b ∧ b < (w4.alloc (.cells #[.string kOp, .int .i64 3, .bool false, .int .i64 0, .string op, .slice none 0 0, .slice none 0 0, .string kPath, .int .i64 3, .bool false, .int .i64 0, .string pa, .slice none 0 0, .slice none 0 0] 45)).heap.size ∧ some b ≠ (.slice (some ⟨g10, 0, none⟩) n10 cap10 : Value).ownBlock) := fun b (h : NoB b) => False.elim h
              refine wpAnyH_ready (rs := [11]) (by kernel_rfl) (by simp) ?_
              refine AllReadyH.cons rfl (fun K hK => ?_) AllReadyH.nil
              refine step_push2 (keepM false) rfl (.tmp 24) (.tmp 33) 23 rfl 0 i1 _ 104 Tryz.underlying23 hJ.out.1 hJ.out.2.1 hJ.out.2.2.1 hJ.out.2.2.2 rfl (by decide) (by decide) (.slice (some ⟨g10, 0, none⟩) n10 cap10) (some (kOp, strV op)) (some (kPath, strV pa)) (cx := [.string kOp, .int .i64 3, .bool false, .int .i64 0, .string op, .slice none 0 0, .slice none 0 0]) (cy := [.string kPath, .int .i64 3, .bool false, .int .i64 0, .string pa, .slice none 0 0, .slice none 0 0]) rfl XA.out.ow w4.heap.size 2 (0, 0) rfl (heap_alloc_new w4 _) rfl rfl one14 HE0.out HE1.out HX.out hn20 (Nat.zero_le _) ?_
              intro g cap w9 o5 g5 e5
              rw [HLL.out] at o5 ⊢
              have X9 := hmk (XA.out.store (SX := NoB) (ms' := M20 ++ [(kOp, strV op), (kPath, strV pa)]) (by omega) HS.out (by rw [List.map_append]; exact o5) g5 (by first | exact e5 | (rw [alloc_size]; exact e5)) (fun b (h : NoB b) => False.elim h))
              have f5 : w9.heap[w.heap.size + 1 + 1 + 1]? = _ := (g5.block (w.heap.size + 3) (Nat.lt_of_lt_of_le (show w.heap.size + 3 < W0.heap.size by omega) XA.out.gr.size) (fun e => by have := XA.out.fl _ e.symm; omega)).trans XA.out.bx
              have e6 : w9.cell? ⟨w.heap.size + 1 + 1 + 1, 5, none⟩ = some (.slice (some ⟨g10, 0, none⟩) n10 cap10) := by rw [cell_of_block f5]; rfl
              have e7 : w9.frozen? ⟨w.heap.size + 1 + 1 + 1, 5, none⟩ = false := frozen_of_block f5 5
              have K5 : Hid (KeepB y10 (fun b => b = w.heap.size) w9) := (KP.out _ BA).grown g5 (fun b hb => ⟨Nat.lt_of_lt_of_le (HA.out b hb).1 BA.size, (HA.out b hb).2.2⟩)
              have K6 : Hid (∀ u, KeepB y10 (fun b => b = w.heap.size) (w9.setCell ⟨w.heap.size + 1 + 1 + 1, 5, none⟩ u)) := fun u => K5.out.set (fun b hb => (HA.out b hb).2.1) 5 u
              refine hK.out _ _ K5.out (fun hHeld => ?_)
              clear hK K f5
              (try simp only [Act.put, List.setIfInBounds_toArray, List.set_cons_zero, List.set_cons_succ])
              (refine wpAnyH_take (i := 12) (v := ?_) rfl (by kernel_rfl) (by kernel_rfl) (by kernel_rfl) (fun _ _ _ h => h) (Or.inl ⟨by kernel_rfl, ?_⟩) (by assumption) ?_; rotate_left 1; (intro W0 hSw; (try dsimp only at hSw); go_simp; (try with_reducible rfl)); (try simp only [Act.put, List.setIfInBounds_toArray, List.set_cons_zero, List.set_cons_succ]))
              refine wpAnyH_ready (rs := [13]) (by kernel_rfl) (by simp) ?_
              refine AllReadyH.cons rfl (fun K hK => ?_) AllReadyH.nil
              go_simp
              refine hK.out _ _ (K6.out _) (fun hHeld => ?_)
              clear hK K
              (try simp only [Act.put, List.setIfInBounds_toArray, List.set_cons_zero, List.set_cons_succ])
              refine wpAnyH_done (by kernel_rfl) ?_ _
              (try dsimp only [Act.put, List.getElem_toArray, List.getElem_cons_succ, List.getElem_cons_zero, List.setIfInBounds_toArray, List.set_cons_zero, List.set_cons_succ])
              clear hHeld K5 K6 e6 e7 XA HX o5 g5 e5
              go_wp2_with fail
              go_meet
              exact ⟨_, g, cap, X9⟩
            · have bA : Below w4.heap.size w4 (w4.alloc (.cells #[.string kOp, .int .i64 3, .bool false, .int .i64 0, .string op, .slice none 0 0, .slice none 0 0, .string kPath, .int .i64 3, .bool false, .int .i64 0, .string pa, .slice none 0 0, .slice none 0 0] 45)) := (Below.refl _ _).alloc (Nat.le_refl _) _
              have BA : Below y10.heap.size y10 (w4.alloc (.cells #[.string kOp, .int .i64 3, .bool false, .int .i64 0, .string op, .slice none 0 0, .slice none 0 0, .string kPath, .int .i64 3, .bool false, .int .i64 0, .string pa, .slice none 0 0, .slice none 0 0] 45)) := B4.trans (bA.mono B4.size)
              go_simp
              refine hK.out _ _ (KP.out _ BA) (fun hHeld => ?_)
              clear hK K
              (try simp only [Act.put, List.setIfInBounds_toArray, List.set_cons_zero, List.set_cons_succ])
              refine wpAnyH_ready (rs := [1]) (by kernel_rfl) (by simp) ?_
              refine AllReadyH.cons rfl (fun K hK => ?_) AllReadyH.nil
              have m5 := HM5.out _ BA
              go_simp
              refine hK.out _ _ (KP.out _ BA) (fun hHeld => ?_)
              clear hK K m5
              (try simp only [Act.put, List.setIfInBounds_toArray, List.set_cons_zero, List.set_cons_succ])
              have XA := hmk (XX20.out.below (show w.heap.size + 3 < W0.heap.size by omega) BA)
              have HE0 : Hid (EM false (some (kOp, strV op)) (w4.alloc (.cells #[.string kOp, .int .i64 3, .bool false, .int .i64 0, .string op, .slice none 0 0, .slice none 0 0, .string kPath, .int .i64 3, .bool false, .int .i64 0, .string pa, .slice none 0 0, .slice none 0 0] 45)) NoB [.string kOp, .int .i64 3, .bool false, .int .i64 0, .string op, .slice none 0 0, .slice none 0 0]) := ⟨_, rfl, (show (kOp : ByteArray).size ≤ maxLen by decide), str_lies op h1 _ _⟩
              have HE1 : Hid (EM false (some (kPath, strV pa)) (w4.alloc (.cells #[.string kOp, .int .i64 3, .bool false, .int .i64 0, .string op, .slice none 0 0, .slice none 0 0, .string kPath, .int .i64 3, .bool false, .int .i64 0, .string pa, .slice none 0 0, .slice none 0 0] 45)) NoB [.string kPath, .int .i64 3, .bool false, .int .i64 0, .string pa, .slice none 0 0, .slice none 0 0]) := ⟨_, rfl, (show (kPath : ByteArray).size ≤ maxLen by decide), str_lies pa h2 _ _⟩
              have HX : Hid (∀ b, NoB b → 0 ≤ b ∧ b < (w4.alloc (.cells #[.string kOp, .int .i64 3, .bool false, .int .i64 0, .string op, .slice none 0 0, .slice none 0 0, .string kPath, .int .i64 3, .bool false, .int .i64 0, .string pa, .slice none 0 0, .slice none 0 0] 45)).heap.size ∧ some b ≠ (.slice (some ⟨g10, 0, none⟩) n10 cap10 : Value).ownBlock) := fun b (h : NoB b) => False.elim h
              refine wpAnyH_ready (rs := [11]) (by kernel_rfl) (by simp) ?_
              refine AllReadyH.cons rfl (fun K hK => ?_) AllReadyH.nil
              refine step_push2 (keepM false) rfl (.tmp 24) (.tmp 33) 23 rfl 0 i1 _ 104 Tryz.underlying23 hJ.out.1 hJ.out.2.1 hJ.out.2.2.1 hJ.out.2.2.2 rfl (by decide) (by decide) (.slice (some ⟨g10, 0, none⟩) n10 cap10) (some (kOp, strV op)) (some (kPath, strV pa)) (cx := [.string kOp, .int .i64 3, .bool false, .int .i64 0, .string op, .slice none 0 0, .slice none 0 0]) (cy := [.string kPath, .int .i64 3, .bool false, .int .i64 0, .string pa, .slice none 0 0, .slice none 0 0]) rfl XA.out.ow w4.heap.size 2 (0, 0) rfl (heap_alloc_new w4 _) rfl rfl one14 HE0.out HE1.out HX.out hn20 (Nat.zero_le _) ?_
              intro g cap w9 o5 g5 e5
              rw [HLL.out] at o5 ⊢
              have X9 := hmk (XA.out.store (SX := NoB) (ms' := M20 ++ [(kOp, strV op), (kPath, strV pa)]) (by omega) HS.out (by rw [List.map_append]; exact o5) g5 (by first | exact e5 | (rw [alloc_size]; exact e5)) (fun b (h : NoB b) => False.elim h))
              have f5 : w9.heap[w.heap.size + 1 + 1 + 1]? = _ := (g5.block (w.heap.size + 3) (Nat.lt_of_lt_of_le (show w.heap.size + 3 < W0.heap.size by omega) XA.out.gr.size) (fun e => by have := XA.out.fl _ e.symm; omega)).trans XA.out.bx
              have e6 : w9.cell? ⟨w.heap.size + 1 + 1 + 1, 5, none⟩ = some (.slice (some ⟨g10, 0, none⟩) n10 cap10) := by rw [cell_of_block f5]; rfl
              have e7 : w9.frozen? ⟨w.heap.size + 1 + 1 + 1, 5, none⟩ = false := frozen_of_block f5 5
              have K5 : Hid (KeepB y10 (fun b => b = w.heap.size) w9) := (KP.out _ BA).grown g5 (fun b hb => ⟨Nat.lt_of_lt_of_le (HA.out b hb).1 BA.size, (HA.out b hb).2.2⟩)
              have K6 : Hid (∀ u, KeepB y10 (fun b => b = w.heap.size) (w9.setCell ⟨w.heap.size + 1 + 1 + 1, 5, none⟩ u)) := fun u => K5.out.set (fun b hb => (HA.out b hb).2.1) 5 u
              refine hK.out _ _ K5.out (fun hHeld => ?_)
              clear hK K f5
              (try simp only [Act.put, List.setIfInBounds_toArray, List.set_cons_zero, List.set_cons_succ])
              (refine wpAnyH_take (i := 12) (v := ?_) rfl (by kernel_rfl) (by kernel_rfl) (by kernel_rfl) (fun _ _ _ h => h) (Or.inl ⟨by kernel_rfl, ?_⟩) (by assumption) ?_; rotate_left 1; (intro W0 hSw; (try dsimp only at hSw); go_simp; (try with_reducible rfl)); (try simp only [Act.put, List.setIfInBounds_toArray, List.set_cons_zero, List.set_cons_succ]))
              refine wpAnyH_ready (rs := [13]) (by kernel_rfl) (by simp) ?_
              refine AllReadyH.cons rfl (fun K hK => ?_) AllReadyH.nil
              go_simp
              refine hK.out _ _ (K6.out _) (fun hHeld => ?_)
              clear hK K
              (try simp only [Act.put, List.setIfInBounds_toArray, List.set_cons_zero, List.set_cons_succ])
              refine wpAnyH_done (by kernel_rfl) ?_ _
              (try dsimp only [Act.put, List.getElem_toArray, List.getElem_cons_succ, List.getElem_cons_zero, List.setIfInBounds_toArray, List.set_cons_zero, List.set_cons_succ])
              clear hHeld K5 K6 e6 e7 XA HX o5 g5 e5
              go_wp2_with fail
              go_meet
              exact ⟨_, g, cap, X9⟩
      case rest =>
        rename World => y20
        obtain ⟨SN20, g20, cap20, X20⟩ := hcut
        clear HM5 HA KP BD hn20 HLL XX20 a0 a1 a2 a3 a4 a5 a6 a7 a8 BW zW
        obtain ⟨_, _, NO, _, _⟩ := HK.out y20 X20.out.gr
        have o1 : y20.cell? ⟨w.heap.size + 1 + 1, 1, none⟩ = some (.bool q) := by rw [cell_of_block NO]; rfl
        clear NO
        cases q with
        | true =>
          go_upto_region 6 with fail
          clear o1
          obtain ⟨SM30, M30, XX30, HM30⟩ : ∃ (SM : Nat → Prop) (M : List Mem), Hid (Wst W0 (w.heap.size + 3) S SM M (.slice (some ⟨g20, 0, none⟩) n20 cap20) y20) ∧ Hid (M = M20 ++ [(kOp, strV op), (kPath, strV pa)]) := ⟨_, _, X20, rfl⟩
          clear X20
          obtain ⟨NS, NR, NO, LV, BW⟩ := HK.out y20 XX30.out.gr
          have a0 : y20.cell? ⟨w.heap.size, 0, none⟩ = some (.string op) := by rw [cell_of_block NS]; rfl
          have a1 : y20.cell? ⟨w.heap.size, 1, none⟩ = some (.string pa) := by rw [cell_of_block NS]; rfl
          have a2 : y20.cell? ⟨w.heap.size, 2, none⟩ = some (.string fr) := by rw [cell_of_block NS]; rfl
          have a3 : y20.cell? ⟨w.heap.size, 3, none⟩ = some (.int .i64 vk) := by rw [cell_of_block NS]; rfl
          have a4 : y20.cell? ⟨w.heap.size, 4, none⟩ = some (.bool vb) := by rw [cell_of_block NS]; rfl
          have a5 : y20.cell? ⟨w.heap.size, 5, none⟩ = some (.int .i64 vi) := by rw [cell_of_block NS]; rfl
          have a6 : y20.cell? ⟨w.heap.size, 6, none⟩ = some (.string vs) := by rw [cell_of_block NS]; rfl
          have a7 : y20.cell? ⟨w.heap.size, 7, none⟩ = some (.slice val vnl vcl) := by rw [cell_of_block NS]; rfl
          have a8 : y20.cell? ⟨w.heap.size, 8, none⟩ = some (.slice vam vnm vcm) := by rw [cell_of_block NS]; rfl
          have m5 : y20.cell? ⟨w.heap.size + 1 + 1 + 1, 5, none⟩ = some (.slice (some ⟨g20, 0, none⟩) n20 cap20) := by rw [cell_of_block (b := w.heap.size + 1 + 1 + 1) XX30.out.bx]; rfl
          clear NS NR NO
          have bA30 : Below y20.heap.size y20 (y20.alloc (.cells #[.string kVal, .int .i64 vk, .bool vb, .int .i64 vi, .string vs, .slice val vnl vcl, .slice vam vnm vcm] 45)) := (Below.refl _ _).alloc (Nat.le_refl _) _
          have XA30 := hmk (XX30.out.below (show w.heap.size + 3 < W0.heap.size by omega) bA30)
          have HE30 : Hid (EM false (some (kVal, v)) (y20.alloc (.cells #[.string kVal, .int .i64 vk, .bool vb, .int .i64 vi, .string vs, .slice val vnl vcl, .slice vam vnm vcm] 45)) S [.string kVal, .int .i64 vk, .bool vb, .int .i64 vi, .string vs, .slice val vnl vcl, .slice vam vnm vcm]) := ⟨_, rfl, (show (kVal : ByteArray).size ≤ maxLen by decide), V.lies_keep (fun h => h) (fun x hx => bA30.block x (by have := hS x hx; have := BW.size; omega)) (fun _ h => h) _ LV⟩
          have HX30 : Hid (∀ b, S b → 0 ≤ b ∧ b < (y20.alloc (.cells #[.string kVal, .int .i64 vk, .bool vb, .int .i64 vi, .string vs, .slice val vnl vcl, .slice vam vnm vcm] 45)).heap.size ∧ some b ≠ (.slice (some ⟨g20, 0, none⟩) n20 cap20 : Value).ownBlock) := fun b hb => ⟨Nat.zero_le _, by have := bA30.size; have := hS b hb; have := BW.size; omega, fun e => by have := XX30.out.fl b e.symm; have := hS b hb; omega⟩
          have hll : (M30.map some).length = M30.length := List.length_map ..
          obtain ⟨n30, hnn⟩ : ∃ n, M30.length + 1 = n := ⟨_, rfl⟩
          have hn30 : (M30.map some).length ≤ 4294967296 := by rw [hll, HM30.out]; simp [HM10.out, HM20.out]
          have HLL : Hid ((M30.map some).length + 1 = n30) := by show _ = _; rw [hll]; exact hnn
          clear LV hll hnn
          go_wp2_with (at_builtin; go_loud (refine wpl_push (keepM false) _ rfl (.tmp 39) (.tmp 43) 23 rfl 0 i1 _ 104 Tryz.underlying23 hJ.out.1 hJ.out.2.1 hJ.out.2.2.1 hJ.out.2.2.2 rfl (by decide) (by decide) (.slice (some ⟨g20, 0, none⟩) n20 cap20) (some (kVal, v)) rfl XA30.out.ow y20.heap.size 1 (0, 0) rfl (heap_alloc_new y20 _) rfl one7 HE30.out HX30.out hn30 (Nat.zero_le _) ?_; rw [HLL.out]))
          intro g30 cap30 w5 o5 g5 e5
          have X30 := hmk (XA30.out.store (SX := S) (ms' := M30 ++ [(kVal, v)]) (by omega) HS.out (by rw [List.map_append]; exact o5) g5 (by first | exact e5 | (rw [alloc_size]; exact e5)) (fun b h => .inl h))
          have f5 : w5.heap[w.heap.size + 1 + 1 + 1]? = _ := (g5.block (w.heap.size + 3) (Nat.lt_of_lt_of_le (show w.heap.size + 3 < W0.heap.size by omega) XA30.out.gr.size) (fun e => by have := XA30.out.fl _ e.symm; omega)).trans XA30.out.bx
          have e6 : w5.cell? ⟨w.heap.size + 1 + 1 + 1, 5, none⟩ = some (.slice (some ⟨g20, 0, none⟩) n20 cap20) := by rw [cell_of_block f5]; rfl
          have e7 : w5.frozen? ⟨w.heap.size + 1 + 1 + 1, 5, none⟩ = false := frozen_of_block f5 5
          clear f5 a0 a1 a2 a3 a4 a5 a6 a7 a8 m5 o5 g5 e5 HE30 HX30 hn30 XA30 bA30 XX30 HLL
          go_upto_region 7 with fail
          generalize w5.setCell ⟨w.heap.size + 1 + 1 + 1, 5, none⟩ (.slice (some ⟨g30, 0, none⟩) n30 cap30) = y30 at *
          clear e6 e7
          have HM : Hid (wrV (op, pa, fr, v) = V.mk 5 false 0 noS [] (M30 ++ [(kVal, v)])) := by show _ = _; simp only [wrV, wrM, HF.out, HQ.out, HM10.out, HM20.out, HM30.out]; rfl
          obtain ⟨_, NR, _, _, BW⟩ := HK.out y30 X30.out.gr
          obtain ⟨ta, tc, tb, to_, hse, hdm, hMs⟩ := X30.out.out (w := w) (by omega) (by omega)
          have HMs := hmk hMs
          have bx := X30.out.bx
          have zz := X30.out.gr.size
          rw [hse] at bx
          obtain ⟨MSL, hmsl⟩ : ∃ l, l = M30 ++ [(kVal, v)] := ⟨_, rfl⟩
          rw [← hmsl] at HM HMs hdm bx
          have x0 : y30.cell? ⟨w.heap.size + 1 + 1 + 1, 0, none⟩ = some (.int .i64 5) := by rw [cell_of_block (b := w.heap.size + 1 + 1 + 1) bx]; rfl
          have x1 : y30.cell? ⟨w.heap.size + 1 + 1 + 1, 1, none⟩ = some (.bool false) := by rw [cell_of_block (b := w.heap.size + 1 + 1 + 1) bx]; rfl
          have x2 : y30.cell? ⟨w.heap.size + 1 + 1 + 1, 2, none⟩ = some (.int .i64 0) := by rw [cell_of_block (b := w.heap.size + 1 + 1 + 1) bx]; rfl
          have x3 : y30.cell? ⟨w.heap.size + 1 + 1 + 1, 3, none⟩ = some (.string ⟨#[]⟩) := by rw [cell_of_block (b := w.heap.size + 1 + 1 + 1) bx]; rfl
          have x4 : y30.cell? ⟨w.heap.size + 1 + 1 + 1, 4, none⟩ = some (.slice none 0 0) := by rw [cell_of_block (b := w.heap.size + 1 + 1 + 1) bx]; rfl
          have x5 : y30.cell? ⟨w.heap.size + 1 + 1 + 1, 5, none⟩ = some (.slice ta MSL.length tc) := by rw [cell_of_block (b := w.heap.size + 1 + 1 + 1) bx]; rfl
          have r0 : y30.cell? ⟨w.heap.size + 1, 0, none⟩ = some (.int .i64 0) := by rw [cell_of_block NR]; rfl
          have r1 : y30.cell? ⟨w.heap.size + 1, 1, none⟩ = some (.bool false) := by rw [cell_of_block NR]; rfl
          have r2 : y30.cell? ⟨w.heap.size + 1, 2, none⟩ = some (.int .i64 0) := by rw [cell_of_block NR]; rfl
          have r3 : y30.cell? ⟨w.heap.size + 1, 3, none⟩ = some (.string ⟨#[]⟩) := by rw [cell_of_block NR]; rfl
          have r4 : y30.cell? ⟨w.heap.size + 1, 4, none⟩ = some (.slice none 0 0) := by rw [cell_of_block NR]; rfl
          have r5 : y30.cell? ⟨w.heap.size + 1, 5, none⟩ = some (.slice none 0 0) := by rw [cell_of_block NR]; rfl
          have rf : ∀ i, y30.frozen? ⟨w.heap.size + 1, i, none⟩ = false := frozen_of_block NR
          clear hse hmsl hMs bx NR X30
          go_wp2_with fail
          (try simp only [Exit.inBlock, Exit.then])
          refine bodyPost_ret (v := .agg #[.int .i64 5, .bool false, .int .i64 0, .string ⟨#[]⟩, .slice none 0 0, .slice ta MSL.length tc]) (by rw [results_cell1 rfl]; go_simp) rfl ?_
          rw [HM.out]
          refine ⟨[.int .i64 5, .bool false, .int .i64 0, .string ⟨#[]⟩, .slice none 0 0, .slice ta MSL.length tc], rfl, V.lies_keep (fun h => h) (fun _ _ => rfl) (fun b hb => hb.imp id (fun q => ⟨by omega, by simp [size_set1]; exact q.2⟩)) _ (lies_set6T (T := fun b => S b ∨ (W0.heap.size ≤ b ∧ b < y30.heap.size)) (lies_S (by simp [In64]) (by simp [In64]) (by decide) ⟨Nat.le_refl _, by simp [maxLen], .inl rfl, fun _ => rfl⟩ hdm (bl := 0) (ol := 0) (by rw [liesL]; trivial) HMs.out) (fun h => by rcases h with h | h; (have := hS _ h; omega); omega) _ _ _ _ _ _ _ _ _ _ _ _), Below.set6 BW (by omega) _ _ _ _ _ _ _ _ _ _ _ _⟩
        | false =>
          go_upto_region 7 with fail
          clear o1
          have HM : Hid (wrV (op, pa, fr, v) = V.mk 5 false 0 noS [] (M20 ++ [(kOp, strV op), (kPath, strV pa)])) := by show _ = _; simp only [wrV, wrM, HF.out, HQ.out, HM10.out, HM20.out]; rfl
          obtain ⟨_, NR, _, _, BW⟩ := HK.out y20 X20.out.gr
          obtain ⟨ta, tc, tb, to_, hse, hdm, hMs⟩ := X20.out.out (w := w) (by omega) (by omega)
          have HMs := hmk hMs
          have bx := X20.out.bx
          have zz := X20.out.gr.size
          rw [hse] at bx
          obtain ⟨MSL, hmsl⟩ : ∃ l, l = M20 ++ [(kOp, strV op), (kPath, strV pa)] := ⟨_, rfl⟩
          rw [← hmsl] at HM HMs hdm bx
          have x0 : y20.cell? ⟨w.heap.size + 1 + 1 + 1, 0, none⟩ = some (.int .i64 5) := by rw [cell_of_block (b := w.heap.size + 1 + 1 + 1) bx]; rfl
          have x1 : y20.cell? ⟨w.heap.size + 1 + 1 + 1, 1, none⟩ = some (.bool false) := by rw [cell_of_block (b := w.heap.size + 1 + 1 + 1) bx]; rfl
          have x2 : y20.cell? ⟨w.heap.size + 1 + 1 + 1, 2, none⟩ = some (.int .i64 0) := by rw [cell_of_block (b := w.heap.size + 1 + 1 + 1) bx]; rfl
          have x3 : y20.cell? ⟨w.heap.size + 1 + 1 + 1, 3, none⟩ = some (.string ⟨#[]⟩) := by rw [cell_of_block (b := w.heap.size + 1 + 1 + 1) bx]; rfl
          have x4 : y20.cell? ⟨w.heap.size + 1 + 1 + 1, 4, none⟩ = some (.slice none 0 0) := by rw [cell_of_block (b := w.heap.size + 1 + 1 + 1) bx]; rfl
          have x5 : y20.cell? ⟨w.heap.size + 1 + 1 + 1, 5, none⟩ = some (.slice ta MSL.length tc) := by rw [cell_of_block (b := w.heap.size + 1 + 1 + 1) bx]; rfl
          have r0 : y20.cell? ⟨w.heap.size + 1, 0, none⟩ = some (.int .i64 0) := by rw [cell_of_block NR]; rfl
          have r1 : y20.cell? ⟨w.heap.size + 1, 1, none⟩ = some (.bool false) := by rw [cell_of_block NR]; rfl
          have r2 : y20.cell? ⟨w.heap.size + 1, 2, none⟩ = some (.int .i64 0) := by rw [cell_of_block NR]; rfl
          have r3 : y20.cell? ⟨w.heap.size + 1, 3, none⟩ = some (.string ⟨#[]⟩) := by rw [cell_of_block NR]; rfl
          have r4 : y20.cell? ⟨w.heap.size + 1, 4, none⟩ = some (.slice none 0 0) := by rw [cell_of_block NR]; rfl
          have r5 : y20.cell? ⟨w.heap.size + 1, 5, none⟩ = some (.slice none 0 0) := by rw [cell_of_block NR]; rfl
          have rf : ∀ i, y20.frozen? ⟨w.heap.size + 1, i, none⟩ = false := frozen_of_block NR
          clear hse hmsl hMs bx NR X20
          go_wp2_with fail
          (try simp only [Exit.inBlock, Exit.then])
          refine bodyPost_ret (v := .agg #[.int .i64 5, .bool false, .int .i64 0, .string ⟨#[]⟩, .slice none 0 0, .slice ta MSL.length tc]) (by rw [results_cell1 rfl]; go_simp) rfl ?_
          rw [HM.out]
          refine ⟨[.int .i64 5, .bool false, .int .i64 0, .string ⟨#[]⟩, .slice none 0 0, .slice ta MSL.length tc], rfl, V.lies_keep (fun h => h) (fun _ _ => rfl) (fun b hb => hb.imp id (fun q => ⟨by omega, by simp [size_set1]; exact q.2⟩)) _ (lies_set6T (T := fun b => S b ∨ (W0.heap.size ≤ b ∧ b < y20.heap.size)) (lies_S (by simp [In64]) (by simp [In64]) (by decide) ⟨Nat.le_refl _, by simp [maxLen], .inl rfl, fun _ => rfl⟩ hdm (bl := 0) (ol := 0) (by rw [liesL]; trivial) HMs.out) (fun h => by rcases h with h | h; (have := hS _ h; omega); omega) _ _ _ _ _ _ _ _ _ _ _ _), Below.set6 BW (by omega) _ _ _ _ _ _ _ _ _ _ _ _⟩
  | false =>
    go_upto_region 4 with fail
    clear o0
    obtain ⟨SM20, M20, XX20, HM20⟩ : ∃ (SM : Nat → Prop) (M : List Mem), Hid (Wst W0 (w.heap.size + 3) S SM M (.slice none 0 0) W0) ∧ Hid (M = ([] : List Mem)) := ⟨_, _, X1, rfl⟩
    clear X1
    obtain ⟨NS, _, _, _, BW⟩ := HK.out W0 XX20.out.gr
    have zW := XX20.out.gr.size
    have a0 : W0.cell? ⟨w.heap.size, 0, none⟩ = some (.string op) := by rw [cell_of_block NS]; rfl
    have a1 : W0.cell? ⟨w.heap.size, 1, none⟩ = some (.string pa) := by rw [cell_of_block NS]; rfl
    have a2 : W0.cell? ⟨w.heap.size, 2, none⟩ = some (.string fr) := by rw [cell_of_block NS]; rfl
    have a3 : W0.cell? ⟨w.heap.size, 3, none⟩ = some (.int .i64 vk) := by rw [cell_of_block NS]; rfl
    have a4 : W0.cell? ⟨w.heap.size, 4, none⟩ = some (.bool vb) := by rw [cell_of_block NS]; rfl
    have a5 : W0.cell? ⟨w.heap.size, 5, none⟩ = some (.int .i64 vi) := by rw [cell_of_block NS]; rfl
    have a6 : W0.cell? ⟨w.heap.size, 6, none⟩ = some (.string vs) := by rw [cell_of_block NS]; rfl
    have a7 : W0.cell? ⟨w.heap.size, 7, none⟩ = some (.slice val vnl vcl) := by rw [cell_of_block NS]; rfl
    have a8 : W0.cell? ⟨w.heap.size, 8, none⟩ = some (.slice vam vnm vcm) := by rw [cell_of_block NS]; rfl
    clear NS
    have HM5 : Hid (∀ W', Below W0.heap.size W0 W' → W'.cell? ⟨w.heap.size + 1 + 1 + 1, 5, none⟩ = some (.slice none 0 0)) := fun W' h => by rw [cell_of_block (b := w.heap.size + 1 + 1 + 1) (XX20.out.below (by omega) h).bx]; rfl
    have HA : Hid (∀ b, (fun b => b = w.heap.size) b → b < W0.heap.size ∧ b ≠ w.heap.size + 3 ∧ some b ≠ (.slice none 0 0 : Value).ownBlock) := fun b hb => by
      subst hb
      exact ⟨by omega, by omega, fun e => by have := XX20.out.fl _ e.symm; omega⟩
    have KP : Hid (∀ W', Below W0.heap.size W0 W' → KeepB W0 (fun b => b = w.heap.size) W') := fun W' hb => (KeepB.refl W0 _).below hb (fun b h => (HA.out b h).1)
    have BD : Hid (Below W0.heap.size W0 W0.drew) := (Below.refl _ _).drew
    have hll : (M20.map some).length = M20.length := List.length_map ..
    obtain ⟨n20, hnn⟩ : ∃ n, M20.length + 2 = n := ⟨_, rfl⟩
    have hn20 : (M20.map some).length ≤ 4294967290 := by rw [hll, HM20.out]; simp []
    have HLL : Hid ((M20.map some).length + 2 = n20) := by show _ = _; rw [hll]; exact hnn
    clear hll hnn
    go_cut [35] (fun e35 wx => ∃ (SM : Nat → Prop) (g cap : Nat), Hid (Wst W0 (w.heap.size + 3) S SM (M20 ++ [(kOp, strV op), (kPath, strV pa)]) (.slice (some ⟨g, 0, none⟩) n20 cap) wx))
    case first =>
      refine wp_region_held_drew (S := KeepB W0 (fun b => b = w.heap.size)) (by kernel_rfl) (KeepB.drew _ _) (fun hHeld => ?_)
      (refine wpAnyH_take (i := 0) (v := ?_) rfl (by kernel_rfl) (by kernel_rfl) (by kernel_rfl) (fun _ _ _ h => h) (Or.inl ⟨by kernel_rfl, ?_⟩) (by assumption) ?_; rotate_left 1; (intro W0 hSw; (try dsimp only at hSw); go_simp; (try with_reducible rfl)); (try simp only [Act.put, List.setIfInBounds_toArray, List.set_cons_zero, List.set_cons_succ]))
      (refine wpAnyH_take (i := 2) (v := ?_) rfl (by kernel_rfl) (by kernel_rfl) (by kernel_rfl) (fun _ _ _ h => h) (Or.inl ⟨by kernel_rfl, ?_⟩) (by assumption) ?_; rotate_left 1; (intro W0 hSw; (try dsimp only at hSw); go_simp; (try with_reducible rfl)); (try simp only [Act.put, List.setIfInBounds_toArray, List.set_cons_zero, List.set_cons_succ]))
      (refine wpAnyH_take (i := 3) (v := ?_) rfl (by kernel_rfl) (by kernel_rfl) (by kernel_rfl) (fun _ _ _ h => h) (Or.inl ⟨by kernel_rfl, ?_⟩) (by assumption) ?_; rotate_left 1; (intro W0 hSw; have z := hSw.cell rfl a0; go_simp; (try with_reducible rfl)); (try simp only [Act.put, List.setIfInBounds_toArray, List.set_cons_zero, List.set_cons_succ]))
      (refine wpAnyH_take (i := 6) (v := ?_) rfl (by kernel_rfl) (by kernel_rfl) (by kernel_rfl) (fun _ _ _ h => h) (Or.inl ⟨by kernel_rfl, ?_⟩) (by assumption) ?_; rotate_left 1; (intro W0 hSw; (try dsimp only at hSw); go_simp; (try with_reducible rfl)); (try simp only [Act.put, List.setIfInBounds_toArray, List.set_cons_zero, List.set_cons_succ]))
      (refine wpAnyH_take (i := 7) (v := ?_) rfl (by kernel_rfl) (by kernel_rfl) (by kernel_rfl) (fun _ _ _ h => h) (Or.inl ⟨by kernel_rfl, ?_⟩) (by assumption) ?_; rotate_left 1; (intro W0 hSw; have z := hSw.cell rfl a1; go_simp; (try with_reducible rfl)); (try simp only [Act.put, List.setIfInBounds_toArray, List.set_cons_zero, List.set_cons_succ]))
      refine wpAnyH_ready (rs := [1, 4]) (by kernel_rfl) (by simp) ?_
      refine AllReadyH.cons rfl (fun K hK => ?_) (AllReadyH.cons rfl (fun K hK => ?_) AllReadyH.nil)
      · have m5 := HM5.out _ BD.out
        go_simp
        refine hK.out _ _ (KP.out _ BD.out) (fun hHeld => ?_)
        clear hK K m5
        (try simp only [Act.put, List.setIfInBounds_toArray, List.set_cons_zero, List.set_cons_succ])
        refine wpAnyH_ready (rs := [4]) (by kernel_rfl) (by simp) ?_
        refine AllReadyH.cons rfl (fun K hK => ?_) AllReadyH.nil
        go_simp
        refine (str_any op _).mono ?_
        rintro e w3 ⟨rfl, b3⟩
        have B3 : Below W0.heap.size W0 w3 := (BD.out).trans (b3.mono (BD.out).size)
        go_wp2_with fail
        refine hK.out _ _ (KP.out _ B3) (fun hHeld => ?_)
        clear hK K
        (try simp only [Act.put, List.setIfInBounds_toArray, List.set_cons_zero, List.set_cons_succ])
        (refine wpAnyH_take (i := 5) (v := ?_) rfl (by kernel_rfl) (by kernel_rfl) (by kernel_rfl) (fun _ _ _ h => h) (Or.inl ⟨by kernel_rfl, ?_⟩) (by assumption) ?_; rotate_left 1; (intro W0 hSw; (try dsimp only at hSw); go_simp; (try with_reducible rfl)); (try simp only [Act.put, List.setIfInBounds_toArray, List.set_cons_zero, List.set_cons_succ]))
        refine wpAnyH_ready (rs := [8]) (by kernel_rfl) (by simp) ?_
        refine AllReadyH.cons rfl (fun K hK => ?_) AllReadyH.nil
        go_simp
        refine (str_any pa _).mono ?_
        rintro e w4 ⟨rfl, b4⟩
        have B4 : Below W0.heap.size W0 w4 := (B3).trans (b4.mono (B3).size)
        go_wp2_with fail
        refine hK.out _ _ (KP.out _ B4) (fun hHeld => ?_)
        clear hK K
        (try simp only [Act.put, List.setIfInBounds_toArray, List.set_cons_zero, List.set_cons_succ])
        (refine wpAnyH_take (i := 9) (v := ?_) rfl (by kernel_rfl) (by kernel_rfl) (by kernel_rfl) (fun _ _ _ h => h) (Or.inl ⟨by kernel_rfl, ?_⟩) (by assumption) ?_; rotate_left 1; (intro W0 hSw; (try dsimp only at hSw); go_simp; (try with_reducible rfl)); (try simp only [Act.put, List.setIfInBounds_toArray, List.set_cons_zero, List.set_cons_succ]))
        refine wpAnyH_ready (rs := [10]) (by kernel_rfl) (by simp) ?_
        refine AllReadyH.cons rfl (fun K hK => ?_) AllReadyH.nil
        have bA : Below w4.heap.size w4 (w4.alloc (.cells #[.string kOp, .int .i64 3, .bool false, .int .i64 0, .string op, .slice none 0 0, .slice none 0 0, .string kPath, .int .i64 3, .bool false, .int .i64 0, .string pa, .slice none 0 0, .slice none 0 0] 45)) := (Below.refl _ _).alloc (Nat.le_refl _) _
        have BA : Below W0.heap.size W0 (w4.alloc (.cells #[.string kOp, .int .i64 3, .bool false, .int .i64 0, .string op, .slice none 0 0, .slice none 0 0, .string kPath, .int .i64 3, .bool false, .int .i64 0, .string pa, .slice none 0 0, .slice none 0 0] 45)) := B4.trans (bA.mono B4.size)
        go_simp
        refine hK.out _ _ (KP.out _ BA) (fun hHeld => ?_)
        clear hK K
        (try simp only [Act.put, List.setIfInBounds_toArray, List.set_cons_zero, List.set_cons_succ])
        have XA := hmk (XX20.out.below (show w.heap.size + 3 < W0.heap.size by omega) BA)
        have HE0 : Hid (EM false (some (kOp, strV op)) (w4.alloc (.cells #[.string kOp, .int .i64 3, .bool false, .int .i64 0, .string op, .slice none 0 0, .slice none 0 0, .string kPath, .int .i64 3, .bool false, .int .i64 0, .string pa, .slice none 0 0, .slice none 0 0] 45)) NoB [.string kOp, .int .i64 3, .bool false, .int .i64 0, .string op, .slice none 0 0, .slice none 0 0]) := ⟨_, rfl, (show (kOp : ByteArray).size ≤ maxLen by decide), str_lies op h1 _ _⟩
        have HE1 : Hid (EM false (some (kPath, strV pa)) (w4.alloc (.cells #[.string kOp, .int .i64 3, .bool false, .int .i64 0, .string op, .slice none 0 0, .slice none 0 0, .string kPath, .int .i64 3, .bool false, .int .i64 0, .string pa, .slice none 0 0, .slice none 0 0] 45)) NoB [.string kPath, .int .i64 3, .bool false, .int .i64 0, .string pa, .slice none 0 0, .slice none 0 0]) := ⟨_, rfl, (show (kPath : ByteArray).size ≤ maxLen by decide), str_lies pa h2 _ _⟩
        have HX : Hid (∀ b, NoB b → 0 ≤ b ∧ b < (w4.alloc (.cells #[.string kOp, .int .i64 3, .bool false, .int .i64 0, .string op, .slice none 0 0, .slice none 0 0, .string kPath, .int .i64 3, .bool false, .int .i64 0, .string pa, .slice none 0 0, .slice none 0 0] 45)).heap.size ∧ some b ≠ (.slice none 0 0 : Value).ownBlock) := fun b (h : NoB b) => False.elim h
        refine wpAnyH_ready (rs := [11]) (by kernel_rfl) (by simp) ?_
        refine AllReadyH.cons rfl (fun K hK => ?_) AllReadyH.nil
        refine step_push2 (keepM false) rfl (.tmp 24) (.tmp 33) 23 rfl 0 i1 _ 104 Tryz.underlying23 hJ.out.1 hJ.out.2.1 hJ.out.2.2.1 hJ.out.2.2.2 rfl (by decide) (by decide) (.slice none 0 0) (some (kOp, strV op)) (some (kPath, strV pa)) (cx := [.string kOp, .int .i64 3, .bool false, .int .i64 0, .string op, .slice none 0 0, .slice none 0 0]) (cy := [.string kPath, .int .i64 3, .bool false, .int .i64 0, .string pa, .slice none 0 0, .slice none 0 0]) rfl XA.out.ow w4.heap.size 2 (0, 0) rfl (heap_alloc_new w4 _) rfl rfl one14 HE0.out HE1.out HX.out hn20 (Nat.zero_le _) ?_
        intro g cap w9 o5 g5 e5
        rw [HLL.out] at o5 ⊢
        have X9 := hmk (XA.out.store (SX := NoB) (ms' := M20 ++ [(kOp, strV op), (kPath, strV pa)]) (by omega) HS.out (by rw [List.map_append]; exact o5) g5 (by first | exact e5 | (rw [alloc_size]; exact e5)) (fun b (h : NoB b) => False.elim h))
        have f5 : w9.heap[w.heap.size + 1 + 1 + 1]? = _ := (g5.block (w.heap.size + 3) (Nat.lt_of_lt_of_le (show w.heap.size + 3 < W0.heap.size by omega) XA.out.gr.size) (fun e => by have := XA.out.fl _ e.symm; omega)).trans XA.out.bx
        have e6 : w9.cell? ⟨w.heap.size + 1 + 1 + 1, 5, none⟩ = some (.slice none 0 0) := by rw [cell_of_block f5]; rfl
        have e7 : w9.frozen? ⟨w.heap.size + 1 + 1 + 1, 5, none⟩ = false := frozen_of_block f5 5
        have K5 : Hid (KeepB W0 (fun b => b = w.heap.size) w9) := (KP.out _ BA).grown g5 (fun b hb => ⟨Nat.lt_of_lt_of_le (HA.out b hb).1 BA.size, (HA.out b hb).2.2⟩)
        have K6 : Hid (∀ u, KeepB W0 (fun b => b = w.heap.size) (w9.setCell ⟨w.heap.size + 1 + 1 + 1, 5, none⟩ u)) := fun u => K5.out.set (fun b hb => (HA.out b hb).2.1) 5 u
        refine hK.out _ _ K5.out (fun hHeld => ?_)
        clear hK K f5
        (try simp only [Act.put, List.setIfInBounds_toArray, List.set_cons_zero, List.set_cons_succ])
        (refine wpAnyH_take (i := 12) (v := ?_) rfl (by kernel_rfl) (by kernel_rfl) (by kernel_rfl) (fun _ _ _ h => h) (Or.inl ⟨by kernel_rfl, ?_⟩) (by assumption) ?_; rotate_left 1; (intro W0 hSw; (try dsimp only at hSw); go_simp; (try with_reducible rfl)); (try simp only [Act.put, List.setIfInBounds_toArray, List.set_cons_zero, List.set_cons_succ]))
        refine wpAnyH_ready (rs := [13]) (by kernel_rfl) (by simp) ?_
        refine AllReadyH.cons rfl (fun K hK => ?_) AllReadyH.nil
        go_simp
        refine hK.out _ _ (K6.out _) (fun hHeld => ?_)
        clear hK K
        (try simp only [Act.put, List.setIfInBounds_toArray, List.set_cons_zero, List.set_cons_succ])
        refine wpAnyH_done (by kernel_rfl) ?_ _
        (try dsimp only [Act.put, List.getElem_toArray, List.getElem_cons_succ, List.getElem_cons_zero, List.setIfInBounds_toArray, List.set_cons_zero, List.set_cons_succ])
        clear hHeld K5 K6 e6 e7 XA HX o5 g5 e5
        go_wp2_with fail
        go_meet
        exact ⟨_, g, cap, X9⟩
      · go_simp
        refine (str_any op _).mono ?_
        rintro e w3 ⟨rfl, b3⟩
        have B3 : Below W0.heap.size W0 w3 := (BD.out).trans (b3.mono (BD.out).size)
        go_wp2_with fail
        refine hK.out _ _ (KP.out _ B3) (fun hHeld => ?_)
        clear hK K
        (try simp only [Act.put, List.setIfInBounds_toArray, List.set_cons_zero, List.set_cons_succ])
        (refine wpAnyH_take (i := 5) (v := ?_) rfl (by kernel_rfl) (by kernel_rfl) (by kernel_rfl) (fun _ _ _ h => h) (Or.inl ⟨by kernel_rfl, ?_⟩) (by assumption) ?_; rotate_left 1; (intro W0 hSw; (try dsimp only at hSw); go_simp; (try with_reducible rfl)); (try simp only [Act.put, List.setIfInBounds_toArray, List.set_cons_zero, List.set_cons_succ]))
        refine wpAnyH_ready (rs := [1, 8]) (by kernel_rfl) (by simp) ?_
        refine AllReadyH.cons rfl (fun K hK => ?_) (AllReadyH.cons rfl (fun K hK => ?_) AllReadyH.nil)
        · have m5 := HM5.out _ B3
          go_simp
          refine hK.out _ _ (KP.out _ B3) (fun hHeld => ?_)
          clear hK K m5
          (try simp only [Act.put, List.setIfInBounds_toArray, List.set_cons_zero, List.set_cons_succ])
          refine wpAnyH_ready (rs := [8]) (by kernel_rfl) (by simp) ?_
          refine AllReadyH.cons rfl (fun K hK => ?_) AllReadyH.nil
          go_simp
          refine (str_any pa _).mono ?_
          rintro e w4 ⟨rfl, b4⟩
          have B4 : Below W0.heap.size W0 w4 := (B3).trans (b4.mono (B3).size)
          go_wp2_with fail
          refine hK.out _ _ (KP.out _ B4) (fun hHeld => ?_)
          clear hK K
          (try simp only [Act.put, List.setIfInBounds_toArray, List.set_cons_zero, List.set_cons_succ])
          (refine wpAnyH_take (i := 9) (v := ?_) rfl (by kernel_rfl) (by kernel_rfl) (by kernel_rfl) (fun _ _ _ h => h) (Or.inl ⟨by kernel_rfl, ?_⟩) (by assumption) ?_; rotate_left 1; (intro W0 hSw; (try dsimp only at hSw); go_simp; (try with_reducible rfl)); (try simp only [Act.put, List.setIfInBounds_toArray, List.set_cons_zero, List.set_cons_succ]))
          refine wpAnyH_ready (rs := [10]) (by kernel_rfl) (by simp) ?_
          refine AllReadyH.cons rfl (fun K hK => ?_) AllReadyH.nil
          have bA : Below w4.heap.size w4 (w4.alloc (.cells #[.string kOp, .int .i64 3, .bool false, .int .i64 0, .string op, .slice none 0 0, .slice none 0 0, .string kPath, .int .i64 3, .bool false, .int .i64 0, .string pa, .slice none 0 0, .slice none 0 0] 45)) := (Below.refl _ _).alloc (Nat.le_refl _) _
          have BA : Below W0.heap.size W0 (w4.alloc (.cells #[.string kOp, .int .i64 3, .bool false, .int .i64 0, .string op, .slice none 0 0, .slice none 0 0, .string kPath, .int .i64 3, .bool false, .int .i64 0, .string pa, .slice none 0 0, .slice none 0 0] 45)) := B4.trans (bA.mono B4.size)
          go_simp
          refine hK.out _ _ (KP.out _ BA) (fun hHeld => ?_)
          clear hK K
          (try simp only [Act.put, List.setIfInBounds_toArray, List.set_cons_zero, List.set_cons_succ])
          have XA := hmk (XX20.out.below (show w.heap.size + 3 < W0.heap.size by omega) BA)
          have HE0 : Hid (EM false (some (kOp, strV op)) (w4.alloc (.cells #[.string kOp, .int .i64 3, .bool false, .int .i64 0, .string op, .slice none 0 0, .slice none 0 0, .string kPath, .int .i64 3, .bool false, .int .i64 0, .string pa, .slice none 0 0, .slice none 0 0] 45)) NoB [.string kOp, .int .i64 3, .bool false, .int .i64 0, .string op, .slice none 0 0, .slice none 0 0]) := ⟨_, rfl, (show (kOp : ByteArray).size ≤ maxLen by decide), str_lies op h1 _ _⟩
          have HE1 : Hid (EM false (some (kPath, strV pa)) (w4.alloc (.cells #[.string kOp, .int .i64 3, .bool false, .int .i64 0, .string op, .slice none 0 0, .slice none 0 0, .string kPath, .int .i64 3, .bool false, .int .i64 0, .string pa, .slice none 0 0, .slice none 0 0] 45)) NoB [.string kPath, .int .i64 3, .bool false, .int .i64 0, .string pa, .slice none 0 0, .slice none 0 0]) := ⟨_, rfl, (show (kPath : ByteArray).size ≤ maxLen by decide), str_lies pa h2 _ _⟩
          have HX : Hid (∀ b, NoB b → 0 ≤ b ∧ b < (w4.alloc (.cells #[.string kOp, .int .i64 3, .bool false, .int .i64 0, .string op, .slice none 0 0, .slice none 0 0, .string kPath, .int .i64 3, .bool false, .int .i64 0, .string pa, .slice none 0 0, .slice none 0 0] 45)).heap.size ∧ some b ≠ (.slice none 0 0 : Value).ownBlock) := fun b (h : NoB b) => False.elim h
          refine wpAnyH_ready (rs := [11]) (by kernel_rfl) (by simp) ?_
          refine AllReadyH.cons rfl (fun K hK => ?_) AllReadyH.nil
          refine step_push2 (keepM false) rfl (.tmp 24) (.tmp 33) 23 rfl 0 i1 _ 104 Tryz.underlying23 hJ.out.1 hJ.out.2.1 hJ.out.2.2.1 hJ.out.2.2.2 rfl (by decide) (by decide) (.slice none 0 0) (some (kOp, strV op)) (some (kPath, strV pa)) (cx := [.string kOp, .int .i64 3, .bool false, .int .i64 0, .string op, .slice none 0 0, .slice none 0 0]) (cy := [.string kPath, .int .i64 3, .bool false, .int .i64 0, .string pa, .slice none 0 0, .slice none 0 0]) rfl XA.out.ow w4.heap.size 2 (0, 0) rfl (heap_alloc_new w4 _) rfl rfl one14 HE0.out HE1.out HX.out hn20 (Nat.zero_le _) ?_
          intro g cap w9 o5 g5 e5
          rw [HLL.out] at o5 ⊢
          have X9 := hmk (XA.out.store (SX := NoB) (ms' := M20 ++ [(kOp, strV op), (kPath, strV pa)]) (by omega) HS.out (by rw [List.map_append]; exact o5) g5 (by first | exact e5 | (rw [alloc_size]; exact e5)) (fun b (h : NoB b) => False.elim h))
          have f5 : w9.heap[w.heap.size + 1 + 1 + 1]? = _ := (g5.block (w.heap.size + 3) (Nat.lt_of_lt_of_le (show w.heap.size + 3 < W0.heap.size by omega) XA.out.gr.size) (fun e => by have := XA.out.fl _ e.symm; omega)).trans XA.out.bx
          have e6 : w9.cell? ⟨w.heap.size + 1 + 1 + 1, 5, none⟩ = some (.slice none 0 0) := by rw [cell_of_block f5]; rfl
          have e7 : w9.frozen? ⟨w.heap.size + 1 + 1 + 1, 5, none⟩ = false := frozen_of_block f5 5
          have K5 : Hid (KeepB W0 (fun b => b = w.heap.size) w9) := (KP.out _ BA).grown g5 (fun b hb => ⟨Nat.lt_of_lt_of_le (HA.out b hb).1 BA.size, (HA.out b hb).2.2⟩)
          have K6 : Hid (∀ u, KeepB W0 (fun b => b = w.heap.size) (w9.setCell ⟨w.heap.size + 1 + 1 + 1, 5, none⟩ u)) := fun u => K5.out.set (fun b hb => (HA.out b hb).2.1) 5 u
          refine hK.out _ _ K5.out (fun hHeld => ?_)
          clear hK K f5
          (try simp only [Act.put, List.setIfInBounds_toArray, List.set_cons_zero, List.set_cons_succ])
          (refine wpAnyH_take (i := 12) (v := ?_) rfl (by kernel_rfl) (by kernel_rfl) (by kernel_rfl) (fun _ _ _ h => h) (Or.inl ⟨by kernel_rfl, ?_⟩) (by assumption) ?_; rotate_left 1; (intro W0 hSw; (try dsimp only at hSw); go_simp; (try with_reducible rfl)); (try simp only [Act.put, List.setIfInBounds_toArray, List.set_cons_zero, List.set_cons_succ]))
          refine wpAnyH_ready (rs := [13]) (by kernel_rfl) (by simp) ?_
          refine AllReadyH.cons rfl (fun K hK => ?_) AllReadyH.nil
          go_simp
          refine hK.out _ _ (K6.out _) (fun hHeld => ?_)
          clear hK K
          (try simp only [Act.put, List.setIfInBounds_toArray, List.set_cons_zero, List.set_cons_succ])
          refine wpAnyH_done (by kernel_rfl) ?_ _
          (try dsimp only [Act.put, List.getElem_toArray, List.getElem_cons_succ, List.getElem_cons_zero, List.setIfInBounds_toArray, List.set_cons_zero, List.set_cons_succ])
          clear hHeld K5 K6 e6 e7 XA HX o5 g5 e5
          go_wp2_with fail
          go_meet
          exact ⟨_, g, cap, X9⟩
        · go_simp
          refine (str_any pa _).mono ?_
          rintro e w4 ⟨rfl, b4⟩
          have B4 : Below W0.heap.size W0 w4 := (B3).trans (b4.mono (B3).size)
          go_wp2_with fail
          refine hK.out _ _ (KP.out _ B4) (fun hHeld => ?_)
          clear hK K
          (try simp only [Act.put, List.setIfInBounds_toArray, List.set_cons_zero, List.set_cons_succ])
          (refine wpAnyH_take (i := 9) (v := ?_) rfl (by kernel_rfl) (by kernel_rfl) (by kernel_rfl) (fun _ _ _ h => h) (Or.inl ⟨by kernel_rfl, ?_⟩) (by assumption) ?_; rotate_left 1; (intro W0 hSw; (try dsimp only at hSw); go_simp; (try with_reducible rfl)); (try simp only [Act.put, List.setIfInBounds_toArray, List.set_cons_zero, List.set_cons_succ]))
          refine wpAnyH_ready (rs := [1, 10]) (by kernel_rfl) (by simp) ?_
          refine AllReadyH.cons rfl (fun K hK => ?_) (AllReadyH.cons rfl (fun K hK => ?_) AllReadyH.nil)
          · have m5 := HM5.out _ B4
            go_simp
            refine hK.out _ _ (KP.out _ B4) (fun hHeld => ?_)
            clear hK K m5
            (try simp only [Act.put, List.setIfInBounds_toArray, List.set_cons_zero, List.set_cons_succ])
            refine wpAnyH_ready (rs := [10]) (by kernel_rfl) (by simp) ?_
            refine AllReadyH.cons rfl (fun K hK => ?_) AllReadyH.nil
            have bA : Below w4.heap.size w4 (w4.alloc (.cells #[.string kOp, .int .i64 3, .bool false, .int .i64 0, .string op, .slice none 0 0, .slice none 0 0, .string kPath, .int .i64 3, .bool false, .int .i64 0, .string pa, .slice none 0 0, .slice none 0 0] 45)) := (Below.refl _ _).alloc (Nat.le_refl _) _
            have BA : Below W0.heap.size W0 (w4.alloc (.cells #[.string kOp, .int .i64 3, .bool false, .int .i64 0, .string op, .slice none 0 0, .slice none 0 0, .string kPath, .int .i64 3, .bool false, .int .i64 0, .string pa, .slice none 0 0, .slice none 0 0] 45)) := B4.trans (bA.mono B4.size)
            go_simp
            refine hK.out _ _ (KP.out _ BA) (fun hHeld => ?_)
            clear hK K
            (try simp only [Act.put, List.setIfInBounds_toArray, List.set_cons_zero, List.set_cons_succ])
            have XA := hmk (XX20.out.below (show w.heap.size + 3 < W0.heap.size by omega) BA)
            have HE0 : Hid (EM false (some (kOp, strV op)) (w4.alloc (.cells #[.string kOp, .int .i64 3, .bool false, .int .i64 0, .string op, .slice none 0 0, .slice none 0 0, .string kPath, .int .i64 3, .bool false, .int .i64 0, .string pa, .slice none 0 0, .slice none 0 0] 45)) NoB [.string kOp, .int .i64 3, .bool false, .int .i64 0, .string op, .slice none 0 0, .slice none 0 0]) := ⟨_, rfl, (show (kOp : ByteArray).size ≤ maxLen by decide), str_lies op h1 _ _⟩
            have HE1 : Hid (EM false (some (kPath, strV pa)) (w4.alloc (.cells #[.string kOp, .int .i64 3, .bool false, .int .i64 0, .string op, .slice none 0 0, .slice none 0 0, .string kPath, .int .i64 3, .bool false, .int .i64 0, .string pa, .slice none 0 0, .slice none 0 0] 45)) NoB [.string kPath, .int .i64 3, .bool false, .int .i64 0, .string pa, .slice none 0 0, .slice none 0 0]) := ⟨_, rfl, (show (kPath : ByteArray).size ≤ maxLen by decide), str_lies pa h2 _ _⟩
            have HX : Hid (∀ b, NoB b → 0 ≤ b ∧ b < (w4.alloc (.cells #[.string kOp, .int .i64 3, .bool false, .int .i64 0, .string op, .slice none 0 0, .slice none 0 0, .string kPath, .int .i64 3, .bool false, .int .i64 0, .string pa, .slice none 0 0, .slice none 0 0] 45)).heap.size ∧ some b ≠ (.slice none 0 0 : Value).ownBlock) := fun b (h : NoB b) => False.elim h
            refine wpAnyH_ready (rs := [11]) (by kernel_rfl) (by simp) ?_
            refine AllReadyH.cons rfl (fun K hK => ?_) AllReadyH.nil
            refine step_push2 (keepM false) rfl (.tmp 24) (.tmp 33) 23 rfl 0 i1 _ 104 Tryz.underlying23 hJ.out.1 hJ.out.2.1 hJ.out.2.2.1 hJ.out.2.2.2 rfl (by decide) (by decide) (.slice none 0 0) (some (kOp, strV op)) (some (kPath, strV pa)) (cx := [.string kOp, .int .i64 3, .bool false, .int .i64 0, .string op, .slice none 0 0, .slice none 0 0]) (cy := [.string kPath, .int .i64 3, .bool false, .int .i64 0, .string pa, .slice none 0 0, .slice none 0 0]) rfl XA.out.ow w4.heap.size 2 (0, 0) rfl (heap_alloc_new w4 _) rfl rfl one14 HE0.out HE1.out HX.out hn20 (Nat.zero_le _) ?_
            intro g cap w9 o5 g5 e5
            rw [HLL.out] at o5 ⊢
            have X9 := hmk (XA.out.store (SX := NoB) (ms' := M20 ++ [(kOp, strV op), (kPath, strV pa)]) (by omega) HS.out (by rw [List.map_append]; exact o5) g5 (by first | exact e5 | (rw [alloc_size]; exact e5)) (fun b (h : NoB b) => False.elim h))
            have f5 : w9.heap[w.heap.size + 1 + 1 + 1]? = _ := (g5.block (w.heap.size + 3) (Nat.lt_of_lt_of_le (show w.heap.size + 3 < W0.heap.size by omega) XA.out.gr.size) (fun e => by have := XA.out.fl _ e.symm; omega)).trans XA.out.bx
            have e6 : w9.cell? ⟨w.heap.size + 1 + 1 + 1, 5, none⟩ = some (.slice none 0 0) := by rw [cell_of_block f5]; rfl
            have e7 : w9.frozen? ⟨w.heap.size + 1 + 1 + 1, 5, none⟩ = false := frozen_of_block f5 5
            have K5 : Hid (KeepB W0 (fun b => b = w.heap.size) w9) := (KP.out _ BA).grown g5 (fun b hb => ⟨Nat.lt_of_lt_of_le (HA.out b hb).1 BA.size, (HA.out b hb).2.2⟩)
            have K6 : Hid (∀ u, KeepB W0 (fun b => b = w.heap.size) (w9.setCell ⟨w.heap.size + 1 + 1 + 1, 5, none⟩ u)) := fun u => K5.out.set (fun b hb => (HA.out b hb).2.1) 5 u
            refine hK.out _ _ K5.out (fun hHeld => ?_)
            clear hK K f5
            (try simp only [Act.put, List.setIfInBounds_toArray, List.set_cons_zero, List.set_cons_succ])
            (refine wpAnyH_take (i := 12) (v := ?_) rfl (by kernel_rfl) (by kernel_rfl) (by kernel_rfl) (fun _ _ _ h => h) (Or.inl ⟨by kernel_rfl, ?_⟩) (by assumption) ?_; rotate_left 1; (intro W0 hSw; (try dsimp only at hSw); go_simp; (try with_reducible rfl)); (try simp only [Act.put, List.setIfInBounds_toArray, List.set_cons_zero, List.set_cons_succ]))
            refine wpAnyH_ready (rs := [13]) (by kernel_rfl) (by simp) ?_
            refine AllReadyH.cons rfl (fun K hK => ?_) AllReadyH.nil
            go_simp
            refine hK.out _ _ (K6.out _) (fun hHeld => ?_)
            clear hK K
            (try simp only [Act.put, List.setIfInBounds_toArray, List.set_cons_zero, List.set_cons_succ])
            refine wpAnyH_done (by kernel_rfl) ?_ _
            (try dsimp only [Act.put, List.getElem_toArray, List.getElem_cons_succ, List.getElem_cons_zero, List.setIfInBounds_toArray, List.set_cons_zero, List.set_cons_succ])
            clear hHeld K5 K6 e6 e7 XA HX o5 g5 e5
            go_wp2_with fail
            go_meet
            exact ⟨_, g, cap, X9⟩
          · have bA : Below w4.heap.size w4 (w4.alloc (.cells #[.string kOp, .int .i64 3, .bool false, .int .i64 0, .string op, .slice none 0 0, .slice none 0 0, .string kPath, .int .i64 3, .bool false, .int .i64 0, .string pa, .slice none 0 0, .slice none 0 0] 45)) := (Below.refl _ _).alloc (Nat.le_refl _) _
            have BA : Below W0.heap.size W0 (w4.alloc (.cells #[.string kOp, .int .i64 3, .bool false, .int .i64 0, .string op, .slice none 0 0, .slice none 0 0, .string kPath, .int .i64 3, .bool false, .int .i64 0, .string pa, .slice none 0 0, .slice none 0 0] 45)) := B4.trans (bA.mono B4.size)
            go_simp
            refine hK.out _ _ (KP.out _ BA) (fun hHeld => ?_)
            clear hK K
            (try simp only [Act.put, List.setIfInBounds_toArray, List.set_cons_zero, List.set_cons_succ])
            refine wpAnyH_ready (rs := [1]) (by kernel_rfl) (by simp) ?_
            refine AllReadyH.cons rfl (fun K hK => ?_) AllReadyH.nil
            have m5 := HM5.out _ BA
            go_simp
            refine hK.out _ _ (KP.out _ BA) (fun hHeld => ?_)
            clear hK K m5
            (try simp only [Act.put, List.setIfInBounds_toArray, List.set_cons_zero, List.set_cons_succ])
            have XA := hmk (XX20.out.below (show w.heap.size + 3 < W0.heap.size by omega) BA)
            have HE0 : Hid (EM false (some (kOp, strV op)) (w4.alloc (.cells #[.string kOp, .int .i64 3, .bool false, .int .i64 0, .string op, .slice none 0 0, .slice none 0 0, .string kPath, .int .i64 3, .bool false, .int .i64 0, .string pa, .slice none 0 0, .slice none 0 0] 45)) NoB [.string kOp, .int .i64 3, .bool false, .int .i64 0, .string op, .slice none 0 0, .slice none 0 0]) := ⟨_, rfl, (show (kOp : ByteArray).size ≤ maxLen by decide), str_lies op h1 _ _⟩
            have HE1 : Hid (EM false (some (kPath, strV pa)) (w4.alloc (.cells #[.string kOp, .int .i64 3, .bool false, .int .i64 0, .string op, .slice none 0 0, .slice none 0 0, .string kPath, .int .i64 3, .bool false, .int .i64 0, .string pa, .slice none 0 0, .slice none 0 0] 45)) NoB [.string kPath, .int .i64 3, .bool false, .int .i64 0, .string pa, .slice none 0 0, .slice none 0 0]) := ⟨_, rfl, (show (kPath : ByteArray).size ≤ maxLen by decide), str_lies pa h2 _ _⟩
            have HX : Hid (∀ b, NoB b → 0 ≤ b ∧ b < (w4.alloc (.cells #[.string kOp, .int .i64 3, .bool false, .int .i64 0, .string op, .slice none 0 0, .slice none 0 0, .string kPath, .int .i64 3, .bool false, .int .i64 0, .string pa, .slice none 0 0, .slice none 0 0] 45)).heap.size ∧ some b ≠ (.slice none 0 0 : Value).ownBlock) := fun b (h : NoB b) => False.elim h
            refine wpAnyH_ready (rs := [11]) (by kernel_rfl) (by simp) ?_
            refine AllReadyH.cons rfl (fun K hK => ?_) AllReadyH.nil
            refine step_push2 (keepM false) rfl (.tmp 24) (.tmp 33) 23 rfl 0 i1 _ 104 Tryz.underlying23 hJ.out.1 hJ.out.2.1 hJ.out.2.2.1 hJ.out.2.2.2 rfl (by decide) (by decide) (.slice none 0 0) (some (kOp, strV op)) (some (kPath, strV pa)) (cx := [.string kOp, .int .i64 3, .bool false, .int .i64 0, .string op, .slice none 0 0, .slice none 0 0]) (cy := [.string kPath, .int .i64 3, .bool false, .int .i64 0, .string pa, .slice none 0 0, .slice none 0 0]) rfl XA.out.ow w4.heap.size 2 (0, 0) rfl (heap_alloc_new w4 _) rfl rfl one14 HE0.out HE1.out HX.out hn20 (Nat.zero_le _) ?_
            intro g cap w9 o5 g5 e5
            rw [HLL.out] at o5 ⊢
            have X9 := hmk (XA.out.store (SX := NoB) (ms' := M20 ++ [(kOp, strV op), (kPath, strV pa)]) (by omega) HS.out (by rw [List.map_append]; exact o5) g5 (by first | exact e5 | (rw [alloc_size]; exact e5)) (fun b (h : NoB b) => False.elim h))
            have f5 : w9.heap[w.heap.size + 1 + 1 + 1]? = _ := (g5.block (w.heap.size + 3) (Nat.lt_of_lt_of_le (show w.heap.size + 3 < W0.heap.size by omega) XA.out.gr.size) (fun e => by have := XA.out.fl _ e.symm; omega)).trans XA.out.bx
            have e6 : w9.cell? ⟨w.heap.size + 1 + 1 + 1, 5, none⟩ = some (.slice none 0 0) := by rw [cell_of_block f5]; rfl
            have e7 : w9.frozen? ⟨w.heap.size + 1 + 1 + 1, 5, none⟩ = false := frozen_of_block f5 5
            have K5 : Hid (KeepB W0 (fun b => b = w.heap.size) w9) := (KP.out _ BA).grown g5 (fun b hb => ⟨Nat.lt_of_lt_of_le (HA.out b hb).1 BA.size, (HA.out b hb).2.2⟩)
            have K6 : Hid (∀ u, KeepB W0 (fun b => b = w.heap.size) (w9.setCell ⟨w.heap.size + 1 + 1 + 1, 5, none⟩ u)) := fun u => K5.out.set (fun b hb => (HA.out b hb).2.1) 5 u
            refine hK.out _ _ K5.out (fun hHeld => ?_)
            clear hK K f5
            (try simp only [Act.put, List.setIfInBounds_toArray, List.set_cons_zero, List.set_cons_succ])
            (refine wpAnyH_take (i := 12) (v := ?_) rfl (by kernel_rfl) (by kernel_rfl) (by kernel_rfl) (fun _ _ _ h => h) (Or.inl ⟨by kernel_rfl, ?_⟩) (by assumption) ?_; rotate_left 1; (intro W0 hSw; (try dsimp only at hSw); go_simp; (try with_reducible rfl)); (try simp only [Act.put, List.setIfInBounds_toArray, List.set_cons_zero, List.set_cons_succ]))
            refine wpAnyH_ready (rs := [13]) (by kernel_rfl) (by simp) ?_
            refine AllReadyH.cons rfl (fun K hK => ?_) AllReadyH.nil
            go_simp
            refine hK.out _ _ (K6.out _) (fun hHeld => ?_)
            clear hK K
            (try simp only [Act.put, List.setIfInBounds_toArray, List.set_cons_zero, List.set_cons_succ])
            refine wpAnyH_done (by kernel_rfl) ?_ _
            (try dsimp only [Act.put, List.getElem_toArray, List.getElem_cons_succ, List.getElem_cons_zero, List.setIfInBounds_toArray, List.set_cons_zero, List.set_cons_succ])
            clear hHeld K5 K6 e6 e7 XA HX o5 g5 e5
            go_wp2_with fail
            go_meet
            exact ⟨_, g, cap, X9⟩
    case rest =>
      rename World => y20
      obtain ⟨SN20, g20, cap20, X20⟩ := hcut
      clear HM5 HA KP BD hn20 HLL XX20 a0 a1 a2 a3 a4 a5 a6 a7 a8 BW zW
      obtain ⟨_, _, NO, _, _⟩ := HK.out y20 X20.out.gr
      have o1 : y20.cell? ⟨w.heap.size + 1 + 1, 1, none⟩ = some (.bool q) := by rw [cell_of_block NO]; rfl
      clear NO
      cases q with
      | true =>
        go_upto_region 6 with fail
        clear o1
        obtain ⟨SM30, M30, XX30, HM30⟩ : ∃ (SM : Nat → Prop) (M : List Mem), Hid (Wst W0 (w.heap.size + 3) S SM M (.slice (some ⟨g20, 0, none⟩) n20 cap20) y20) ∧ Hid (M = M20 ++ [(kOp, strV op), (kPath, strV pa)]) := ⟨_, _, X20, rfl⟩
        clear X20
        obtain ⟨NS, NR, NO, LV, BW⟩ := HK.out y20 XX30.out.gr
        have a0 : y20.cell? ⟨w.heap.size, 0, none⟩ = some (.string op) := by rw [cell_of_block NS]; rfl
        have a1 : y20.cell? ⟨w.heap.size, 1, none⟩ = some (.string pa) := by rw [cell_of_block NS]; rfl
        have a2 : y20.cell? ⟨w.heap.size, 2, none⟩ = some (.string fr) := by rw [cell_of_block NS]; rfl
        have a3 : y20.cell? ⟨w.heap.size, 3, none⟩ = some (.int .i64 vk) := by rw [cell_of_block NS]; rfl
        have a4 : y20.cell? ⟨w.heap.size, 4, none⟩ = some (.bool vb) := by rw [cell_of_block NS]; rfl
        have a5 : y20.cell? ⟨w.heap.size, 5, none⟩ = some (.int .i64 vi) := by rw [cell_of_block NS]; rfl
        have a6 : y20.cell? ⟨w.heap.size, 6, none⟩ = some (.string vs) := by rw [cell_of_block NS]; rfl
        have a7 : y20.cell? ⟨w.heap.size, 7, none⟩ = some (.slice val vnl vcl) := by rw [cell_of_block NS]; rfl
        have a8 : y20.cell? ⟨w.heap.size, 8, none⟩ = some (.slice vam vnm vcm) := by rw [cell_of_block NS]; rfl
        have m5 : y20.cell? ⟨w.heap.size + 1 + 1 + 1, 5, none⟩ = some (.slice (some ⟨g20, 0, none⟩) n20 cap20) := by rw [cell_of_block (b := w.heap.size + 1 + 1 + 1) XX30.out.bx]; rfl
        clear NS NR NO
        have bA30 : Below y20.heap.size y20 (y20.alloc (.cells #[.string kVal, .int .i64 vk, .bool vb, .int .i64 vi, .string vs, .slice val vnl vcl, .slice vam vnm vcm] 45)) := (Below.refl _ _).alloc (Nat.le_refl _) _
        have XA30 := hmk (XX30.out.below (show w.heap.size + 3 < W0.heap.size by omega) bA30)
        have HE30 : Hid (EM false (some (kVal, v)) (y20.alloc (.cells #[.string kVal, .int .i64 vk, .bool vb, .int .i64 vi, .string vs, .slice val vnl vcl, .slice vam vnm vcm] 45)) S [.string kVal, .int .i64 vk, .bool vb, .int .i64 vi, .string vs, .slice val vnl vcl, .slice vam vnm vcm]) := ⟨_, rfl, (show (kVal : ByteArray).size ≤ maxLen by decide), V.lies_keep (fun h => h) (fun x hx => bA30.block x (by have := hS x hx; have := BW.size; omega)) (fun _ h => h) _ LV⟩
        have HX30 : Hid (∀ b, S b → 0 ≤ b ∧ b < (y20.alloc (.cells #[.string kVal, .int .i64 vk, .bool vb, .int .i64 vi, .string vs, .slice val vnl vcl, .slice vam vnm vcm] 45)).heap.size ∧ some b ≠ (.slice (some ⟨g20, 0, none⟩) n20 cap20 : Value).ownBlock) := fun b hb => ⟨Nat.zero_le _, by have := bA30.size; have := hS b hb; have := BW.size; omega, fun e => by have := XX30.out.fl b e.symm; have := hS b hb; omega⟩
        have hll : (M30.map some).length = M30.length := List.length_map ..
        obtain ⟨n30, hnn⟩ : ∃ n, M30.length + 1 = n := ⟨_, rfl⟩
        have hn30 : (M30.map some).length ≤ 4294967296 := by rw [hll, HM30.out]; simp [HM20.out]
        have HLL : Hid ((M30.map some).length + 1 = n30) := by show _ = _; rw [hll]; exact hnn
        clear LV hll hnn
        go_wp2_with (at_builtin; go_loud (refine wpl_push (keepM false) _ rfl (.tmp 39) (.tmp 43) 23 rfl 0 i1 _ 104 Tryz.underlying23 hJ.out.1 hJ.out.2.1 hJ.out.2.2.1 hJ.out.2.2.2 rfl (by decide) (by decide) (.slice (some ⟨g20, 0, none⟩) n20 cap20) (some (kVal, v)) rfl XA30.out.ow y20.heap.size 1 (0, 0) rfl (heap_alloc_new y20 _) rfl one7 HE30.out HX30.out hn30 (Nat.zero_le _) ?_; rw [HLL.out]))
        intro g30 cap30 w5 o5 g5 e5
        have X30 := hmk (XA30.out.store (SX := S) (ms' := M30 ++ [(kVal, v)]) (by omega) HS.out (by rw [List.map_append]; exact o5) g5 (by first | exact e5 | (rw [alloc_size]; exact e5)) (fun b h => .inl h))
        have f5 : w5.heap[w.heap.size + 1 + 1 + 1]? = _ := (g5.block (w.heap.size + 3) (Nat.lt_of_lt_of_le (show w.heap.size + 3 < W0.heap.size by omega) XA30.out.gr.size) (fun e => by have := XA30.out.fl _ e.symm; omega)).trans XA30.out.bx
        have e6 : w5.cell? ⟨w.heap.size + 1 + 1 + 1, 5, none⟩ = some (.slice (some ⟨g20, 0, none⟩) n20 cap20) := by rw [cell_of_block f5]; rfl
        have e7 : w5.frozen? ⟨w.heap.size + 1 + 1 + 1, 5, none⟩ = false := frozen_of_block f5 5
        clear f5 a0 a1 a2 a3 a4 a5 a6 a7 a8 m5 o5 g5 e5 HE30 HX30 hn30 XA30 bA30 XX30 HLL
        go_upto_region 7 with fail
        generalize w5.setCell ⟨w.heap.size + 1 + 1 + 1, 5, none⟩ (.slice (some ⟨g30, 0, none⟩) n30 cap30) = y30 at *
        clear e6 e7
        have HM : Hid (wrV (op, pa, fr, v) = V.mk 5 false 0 noS [] (M30 ++ [(kVal, v)])) := by show _ = _; simp only [wrV, wrM, HF.out, HQ.out, HM20.out, HM30.out]; rfl
        obtain ⟨_, NR, _, _, BW⟩ := HK.out y30 X30.out.gr
        obtain ⟨ta, tc, tb, to_, hse, hdm, hMs⟩ := X30.out.out (w := w) (by omega) (by omega)
        have HMs := hmk hMs
        have bx := X30.out.bx
        have zz := X30.out.gr.size
        rw [hse] at bx
        obtain ⟨MSL, hmsl⟩ : ∃ l, l = M30 ++ [(kVal, v)] := ⟨_, rfl⟩
        rw [← hmsl] at HM HMs hdm bx
        have x0 : y30.cell? ⟨w.heap.size + 1 + 1 + 1, 0, none⟩ = some (.int .i64 5) := by rw [cell_of_block (b := w.heap.size + 1 + 1 + 1) bx]; rfl
        have x1 : y30.cell? ⟨w.heap.size + 1 + 1 + 1, 1, none⟩ = some (.bool false) := by rw [cell_of_block (b := w.heap.size + 1 + 1 + 1) bx]; rfl
        have x2 : y30.cell? ⟨w.heap.size + 1 + 1 + 1, 2, none⟩ = some (.int .i64 0) := by rw [cell_of_block (b := w.heap.size + 1 + 1 + 1) bx]; rfl
        have x3 : y30.cell? ⟨w.heap.size + 1 + 1 + 1, 3, none⟩ = some (.string ⟨#[]⟩) := by rw [cell_of_block (b := w.heap.size + 1 + 1 + 1) bx]; rfl
        have x4 : y30.cell? ⟨w.heap.size + 1 + 1 + 1, 4, none⟩ = some (.slice none 0 0) := by rw [cell_of_block (b := w.heap.size + 1 + 1 + 1) bx]; rfl
        have x5 : y30.cell? ⟨w.heap.size + 1 + 1 + 1, 5, none⟩ = some (.slice ta MSL.length tc) := by rw [cell_of_block (b := w.heap.size + 1 + 1 + 1) bx]; rfl
        have r0 : y30.cell? ⟨w.heap.size + 1, 0, none⟩ = some (.int .i64 0) := by rw [cell_of_block NR]; rfl
        have r1 : y30.cell? ⟨w.heap.size + 1, 1, none⟩ = some (.bool false) := by rw [cell_of_block NR]; rfl
        have r2 : y30.cell? ⟨w.heap.size + 1, 2, none⟩ = some (.int .i64 0) := by rw [cell_of_block NR]; rfl
        have r3 : y30.cell? ⟨w.heap.size + 1, 3, none⟩ = some (.string ⟨#[]⟩) := by rw [cell_of_block NR]; rfl
        have r4 : y30.cell? ⟨w.heap.size + 1, 4, none⟩ = some (.slice none 0 0) := by rw [cell_of_block NR]; rfl
        have r5 : y30.cell? ⟨w.heap.size + 1, 5, none⟩ = some (.slice none 0 0) := by rw [cell_of_block NR]; rfl
        have rf : ∀ i, y30.frozen? ⟨w.heap.size + 1, i, none⟩ = false := frozen_of_block NR
        clear hse hmsl hMs bx NR X30
        go_wp2_with fail
        (try simp only [Exit.inBlock, Exit.then])
        refine bodyPost_ret (v := .agg #[.int .i64 5, .bool false, .int .i64 0, .string ⟨#[]⟩, .slice none 0 0, .slice ta MSL.length tc]) (by rw [results_cell1 rfl]; go_simp) rfl ?_
        rw [HM.out]
        refine ⟨[.int .i64 5, .bool false, .int .i64 0, .string ⟨#[]⟩, .slice none 0 0, .slice ta MSL.length tc], rfl, V.lies_keep (fun h => h) (fun _ _ => rfl) (fun b hb => hb.imp id (fun q => ⟨by omega, by simp [size_set1]; exact q.2⟩)) _ (lies_set6T (T := fun b => S b ∨ (W0.heap.size ≤ b ∧ b < y30.heap.size)) (lies_S (by simp [In64]) (by simp [In64]) (by decide) ⟨Nat.le_refl _, by simp [maxLen], .inl rfl, fun _ => rfl⟩ hdm (bl := 0) (ol := 0) (by rw [liesL]; trivial) HMs.out) (fun h => by rcases h with h | h; (have := hS _ h; omega); omega) _ _ _ _ _ _ _ _ _ _ _ _), Below.set6 BW (by omega) _ _ _ _ _ _ _ _ _ _ _ _⟩
      | false =>
        go_upto_region 7 with fail
        clear o1
        have HM : Hid (wrV (op, pa, fr, v) = V.mk 5 false 0 noS [] (M20 ++ [(kOp, strV op), (kPath, strV pa)])) := by show _ = _; simp only [wrV, wrM, HF.out, HQ.out, HM20.out]; rfl
        obtain ⟨_, NR, _, _, BW⟩ := HK.out y20 X20.out.gr
        obtain ⟨ta, tc, tb, to_, hse, hdm, hMs⟩ := X20.out.out (w := w) (by omega) (by omega)
        have HMs := hmk hMs
        have bx := X20.out.bx
        have zz := X20.out.gr.size
        rw [hse] at bx
        obtain ⟨MSL, hmsl⟩ : ∃ l, l = M20 ++ [(kOp, strV op), (kPath, strV pa)] := ⟨_, rfl⟩
        rw [← hmsl] at HM HMs hdm bx
        have x0 : y20.cell? ⟨w.heap.size + 1 + 1 + 1, 0, none⟩ = some (.int .i64 5) := by rw [cell_of_block (b := w.heap.size + 1 + 1 + 1) bx]; rfl
        have x1 : y20.cell? ⟨w.heap.size + 1 + 1 + 1, 1, none⟩ = some (.bool false) := by rw [cell_of_block (b := w.heap.size + 1 + 1 + 1) bx]; rfl
        have x2 : y20.cell? ⟨w.heap.size + 1 + 1 + 1, 2, none⟩ = some (.int .i64 0) := by rw [cell_of_block (b := w.heap.size + 1 + 1 + 1) bx]; rfl
        have x3 : y20.cell? ⟨w.heap.size + 1 + 1 + 1, 3, none⟩ = some (.string ⟨#[]⟩) := by rw [cell_of_block (b := w.heap.size + 1 + 1 + 1) bx]; rfl
        have x4 : y20.cell? ⟨w.heap.size + 1 + 1 + 1, 4, none⟩ = some (.slice none 0 0) := by rw [cell_of_block (b := w.heap.size + 1 + 1 + 1) bx]; rfl
        have x5 : y20.cell? ⟨w.heap.size + 1 + 1 + 1, 5, none⟩ = some (.slice ta MSL.length tc) := by rw [cell_of_block (b := w.heap.size + 1 + 1 + 1) bx]; rfl
        have r0 : y20.cell? ⟨w.heap.size + 1, 0, none⟩ = some (.int .i64 0) := by rw [cell_of_block NR]; rfl
        have r1 : y20.cell? ⟨w.heap.size + 1, 1, none⟩ = some (.bool false) := by rw [cell_of_block NR]; rfl
        have r2 : y20.cell? ⟨w.heap.size + 1, 2, none⟩ = some (.int .i64 0) := by rw [cell_of_block NR]; rfl
        have r3 : y20.cell? ⟨w.heap.size + 1, 3, none⟩ = some (.string ⟨#[]⟩) := by rw [cell_of_block NR]; rfl
        have r4 : y20.cell? ⟨w.heap.size + 1, 4, none⟩ = some (.slice none 0 0) := by rw [cell_of_block NR]; rfl
        have r5 : y20.cell? ⟨w.heap.size + 1, 5, none⟩ = some (.slice none 0 0) := by rw [cell_of_block NR]; rfl
        have rf : ∀ i, y20.frozen? ⟨w.heap.size + 1, i, none⟩ = false := frozen_of_block NR
        clear hse hmsl hMs bx NR X20
        go_wp2_with fail
        (try simp only [Exit.inBlock, Exit.then])
        refine bodyPost_ret (v := .agg #[.int .i64 5, .bool false, .int .i64 0, .string ⟨#[]⟩, .slice none 0 0, .slice ta MSL.length tc]) (by rw [results_cell1 rfl]; go_simp) rfl ?_
        rw [HM.out]
        refine ⟨[.int .i64 5, .bool false, .int .i64 0, .string ⟨#[]⟩, .slice none 0 0, .slice ta MSL.length tc], rfl, V.lies_keep (fun h => h) (fun _ _ => rfl) (fun b hb => hb.imp id (fun q => ⟨by omega, by simp [size_set1]; exact q.2⟩)) _ (lies_set6T (T := fun b => S b ∨ (W0.heap.size ≤ b ∧ b < y20.heap.size)) (lies_S (by simp [In64]) (by simp [In64]) (by decide) ⟨Nat.le_refl _, by simp [maxLen], .inl rfl, fun _ => rfl⟩ hdm (bl := 0) (ol := 0) (by rw [liesL]; trivial) HMs.out) (fun h => by rcases h with h | h; (have := hS _ h; omega); omega) _ _ _ _ _ _ _ _ _ _ _ _), Below.set6 BW (by omega) _ _ _ _ _ _ _ _ _ _ _ _⟩
end Go.Proofs.YtjgbjhahmgegiaaGreatDoor
