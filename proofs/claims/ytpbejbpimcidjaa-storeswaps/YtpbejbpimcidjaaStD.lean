/- write: any event, with room in the past. -/
import Derived.Test.YtpbejbpimcidjaaStC
set_option linter.unusedSimpArgs false
set_option linter.unusedVariables false
namespace Go.Proofs.Ytpbejbpimcidjaa
open Go Go.Lib Go.RowKit

theorem lt_of_block {W : World} {y : Nat} {o : Obj} (e : W.heap[y]? = some o) : y < W.heap.size := (Array.getElem?_eq_some_iff.1 e).1
theorem map_ne {W : World} {P : Program} {k : TypeId} {R : Value → Option (DataW Unit × List MemPlace)} {b n : Nat} {D : DataW Unit} (h : W.ownsMap P k R b n D) {g : Nat} {c : Array Value} {t : TypeId} {f : Nat × Nat} (e : W.heap[g]? = some (.cells c t f)) : b ≠ g := fun q => by
  obtain ⟨es, clock, hb, _⟩ := h
  rw [q, e] at hb
  cases hb
theorem map_keep {W W' : World} {P : Program} {k : TypeId} {R : Value → Option (DataW Unit × List MemPlace)} {b n : Nat} {D : DataW Unit} (h : W.ownsMap P k R b n D) (e : W'.heap[b]? = W.heap[b]?) : W'.ownsMap P k R b n D := by
  obtain ⟨es, clock, hb, r⟩ := h
  exact ⟨es, clock, e.trans hb, r⟩
theorem pst_block {W : World} {F : Nat → Prop} {pv : Value} {l : List Evt} (h : Pst W F pv l) {g a n c : Nat} (e : pv = .slice (some ⟨g, a, none⟩) n c) : (∃ sz, Blk g 60 sz W) ∧ ¬ F g := by
  rcases h.p with ⟨_, rfl⟩ | ⟨g', o, c', sz, rfl, h1, h2, h3, h4, h5, h6⟩
  · cases e
  · simp only [Value.slice.injEq, Option.some.injEq, Addr.mk.injEq] at e
    obtain ⟨⟨rfl, _⟩, _⟩ := e
    exact ⟨⟨sz, h4⟩, h3⟩
/-- the store: its floor's state, its state, its past -/
structure Sto (F : Nat → Prop) (w0 W : World) (S : Nat) (rev floor : Int) (bb bn n : Nat) (D DN : DataW Unit) (pv : Value) (l : List Evt) : Prop where
  bel : Fr F w0 W
  box : W.heap[S]? = some (.cells #[.int .i64 rev, .int .i64 floor, .map (some bb), .map (some bn), pv] 57)
  base : W.ownsMap Try.prog 9 oR bb n D
  now : W.ownsMap Try.prog 9 oR bn n DN
  past : Pst W F pv l
  s : ¬ F S
  b1 : ¬ F bb
  b2 : ¬ F bn
  ne : bb ≠ bn
  ok : ∀ e ∈ l, (e.1 = 1 ∨ e.1 = 2 ∨ e.1 = 3) ∧ e.2.1.size ≤ 1000
theorem Sto.ng {F : Nat → Prop} {w0 W : World} {S : Nat} {rev floor : Int} {bb bn n : Nat} {D DN : DataW Unit} {pv : Value} {l : List Evt} (h : Sto F w0 W S rev floor bb bn n D DN pv l) {g a m c : Nat} (e : pv = .slice (some ⟨g, a, none⟩) m c) : g ≠ S ∧ g ≠ bb ∧ g ≠ bn ∧ ¬ F g ∧ g < W.heap.size := by
  obtain ⟨⟨sz, arr, hb, hs⟩, hN⟩ := pst_block h.past e
  refine ⟨fun q => ?_, fun q => map_ne h.base hb q.symm, fun q => map_ne h.now hb q.symm, hN, lt_of_block hb⟩
  rw [q, h.box] at hb
  simp at hb
theorem Sto.keep {F : Nat → Prop} {w0 W W' : World} {S : Nat} {rev floor : Int} {bb bn n : Nat} {D DN : DataW Unit} {pv : Value} {l : List Evt} (h : Sto F w0 W S rev floor bb bn n D DN pv l) (b : Below W.heap.size W W') : Sto F w0 W' S rev floor bb bn n D DN pv l :=
  ⟨h.bel.below b, (b.block _ (lt_of_block h.box)).trans h.box, map_keep h.base (b.block _ h.base.lt), map_keep h.now (b.block _ h.now.lt), h.past.keep (fun _ _ => trivial) (fun g a n c e => b.block _ (h.ng e).2.2.2.2), h.s, h.b1, h.b2, h.ne, h.ok⟩
theorem Sto.keepG {F : Nat → Prop} {w0 W W' : World} {S : Nat} {rev floor : Int} {bb bn n : Nat} {D DN : DataW Unit} {pv : Value} {l : List Evt} (h : Sto F w0 W S rev floor bb bn n D DN pv l) (b : Fr F w0 W') (q : ∀ y, (y = S ∨ y = bb ∨ y = bn ∨ ∃ a m c, pv = .slice (some ⟨y, a, none⟩) m c) → W'.heap[y]? = W.heap[y]?) : Sto F w0 W' S rev floor bb bn n D DN pv l :=
  ⟨b, (q S (.inl rfl)).trans h.box, map_keep h.base (q bb (.inr (.inl rfl))), map_keep h.now (q bn (.inr (.inr (.inl rfl)))), h.past.keep (fun _ _ => trivial) (fun g a n c e => q g (.inr (.inr (.inr ⟨a, n, c, e⟩)))), h.s, h.b1, h.b2, h.ne, h.ok⟩
theorem Sto.lt {F : Nat → Prop} {w0 W : World} {S : Nat} {rev floor : Int} {bb bn n : Nat} {D DN : DataW Unit} {pv : Value} {l : List Evt} (h : Sto F w0 W S rev floor bb bn n D DN pv l) : ∀ y, (y = S ∨ y = bb ∨ y = bn ∨ ∃ a m c, pv = .slice (some ⟨y, a, none⟩) m c) → y < W.heap.size ∧ ¬ F y := fun y hy => by
  rcases hy with rfl | rfl | rfl | ⟨a, m, c, e⟩
  · exact ⟨lt_of_block h.box, h.s⟩
  · exact ⟨h.base.lt, h.b1⟩
  · exact ⟨h.now.lt, h.b2⟩
  · exact ⟨(h.ng e).2.2.2.2, (h.ng e).2.2.2.1⟩
theorem step_app {P : Program} {ops : Array Oper} {o : Oper} {a : Act} {w w' : World} {K' : Act → World → Prop} {Q : Exit → Act → World → Prop} {D : Prop} (hgd : o.guard = none) (s x : Operand) (t : TypeId)
    (ho : o.op = .call { callee := .builtin .append, args := #[s, x], argTypes := #[t, t] }) (v xv v' : Value) (hs : a.eval s = v) (hx : a.eval x = xv) (hrun : (Builtin.append_ #[t, t] o.type #[v, xv]).run P w = .ok v' w')
    (h : K' (a.put o.dst v') w') : if Region.wanted o (yielded ops a.tmps) = true then Oper.wp P o a w K' Q else D := by
  have hw : Region.wanted o (yielded ops a.tmps) = true := by simp [Region.wanted, hgd]
  rw [if_pos hw]
  unfold Oper.wp
  simp [execOp, ho, resolve, invoke, builtin, hs, hx, hrun, Result.andThen]
  exact h
set_option maxHeartbeats 8000000 in
set_option maxRecDepth 100000 in
theorem write_any (F : Nat → Prop) (w0 W : World) (S : Nat) (rev floor : Int) (bb bn n : Nat) (D DN : DataW Unit) (kd : Int) (key d' : ByteArray) (pv : Value) (l : List Evt) (h : Sto F w0 W S rev floor bb bn n D DN pv l) (hl : l.length < 65536) (hn : n < 500000) (hr : 0 ≤ rev ∧ rev < 9007199254740991) (hkd : kd = 1 ∨ kd = 2 ∨ kd = 3) (hks : key.size ≤ 1000) :
    Calls Try.prog 16 #[.pointer (some ⟨S, 0, none⟩), .agg #[.int .i64 kd, .string key, .string d']] W fun e W' => e = .returned (.tuple #[.int .i64 (rev + 1), .int .i64 0]) ∧ ∃ pv', Sto F w0 W' S (rev + 1) floor bb bn (n + 1) D (wr DN kd key (rev + 1) d') pv' (l ++ [(kd, key, d')]) := by
  have h1 := h.keep (one_belowG W (.cells #[.int .i64 kd, .string key, .string d'] 60))
  have hX := heap_alloc_new W (.cells #[.int .i64 kd, .string key, .string d'] 60)
  have hz : W.heap.size < (W.alloc (.cells #[.int .i64 kd, .string key, .string d'] 60)).heap.size := by rw [alloc_size]; omega
  have hSl := lt_of_block h.box
  have c0 : (W.alloc (.cells #[.int .i64 kd, .string key, .string d'] 60)).cell? ⟨S, 0, none⟩ = some (.int .i64 rev) := by rw [cell_of_block h1.box]; rfl
  have c3 : (W.alloc (.cells #[.int .i64 kd, .string key, .string d'] 60)).cell? ⟨S, 3, none⟩ = some (.map (some bn)) := by rw [cell_of_block h1.box]; rfl
  have x1 : (W.alloc (.cells #[.int .i64 kd, .string key, .string d'] 60)).cell? ⟨W.heap.size, 1, none⟩ = some (.string key) := by rw [cell_of_block hX]; rfl
  have y0 : ¬ (9007199254740991 : Int) ≤ rev := by omega
  have hq : ∀ W', (Go.binOp .eql 54 (.map (some bn)) (.map none)).run Try.prog W' = .ok (.bool false) W' := fun W' => by kernel_rfl
  have hq2 : ∀ W', (Go.eqGuard .eql 54 (.tmp 14) (.const (.map none)) (.map (some bn)) (.map none)).run Try.prog W' = .ok () W' := fun W' => by kernel_rfl
  have HLT := hmk h.lt
  have HXF : Hid (¬ F W.heap.size) := h.bel.new (Nat.le_refl _)
  have HKD := hmk hkd
  have HKS := hmk hks
  clear hkd hks
  have H1 := hmk h1
  have HX := hmk hX
  clear h h1 hX
  go_enter Try.func16, Try.ntmps16
  go_wp2_with fail
  clear c0 c3 x1
  generalize W.alloc (.cells #[.int .i64 kd, .string key, .string d'] 60) = W1 at *
  refine (clone_any key W1 HKS.out).mono ?_
  rintro e W2 ⟨rfl, b2⟩
  have h2 := H1.out.keep b2
  have hX2 := (b2.block _ hz).trans HX.out
  have f1 : W2.frozen? ⟨W.heap.size, 1, none⟩ = false := frozen_of_block hX2 1
  have x1 : W2.cell? ⟨W.heap.size, 1, none⟩ = some (.string key) := by rw [cell_of_block hX2]; rfl
  have hz2 := b2.size
  go_wp2_with fail
  have hWl := H1.out.bel.size
  have h3 : Sto F w0 (W2.setCell ⟨W.heap.size, 1, none⟩ (.string key)) S rev floor bb bn n D DN pv l := h2.keepG (h2.bel.grown (grown_set1 W2 _ _ _) HXF.out) (fun y hy => set_other (by have := (HLT.out y hy).1; omega))
  have hX3 : (W2.setCell ⟨W.heap.size, 1, none⟩ (.string key)).heap[W.heap.size]? = some (.cells #[.int .i64 kd, .string key, .string d'] 60) := set_block hX2 1 _
  have hz3 : W.heap.size < (W2.setCell ⟨W.heap.size, 1, none⟩ (.string key)).heap.size := by rw [size_set1]; omega
  have H3 := hmk h3
  have HX3 := hmk hX3
  clear h2 hX2 f1 x1 h3 hX3 H1 HX b2
  generalize (W2.setCell ⟨W.heap.size, 1, none⟩ (.string key)) = W3 at *
  refine wp_region_held_drew (S := fun Y => Y.heap[S]? = some (.cells #[.int .i64 rev, .int .i64 floor, .map (some bb), .map (some bn), pv] 57) ∧ Y.heap[W.heap.size]? = some (.cells #[.int .i64 kd, .string key, .string d'] 60)) (by kernel_rfl) ⟨H3.out.box, HX3.out⟩ (fun hHeld => ?_)
  (refine wpAnyH_take (i := 0) (v := ?_) rfl (by kernel_rfl) (by kernel_rfl) (by kernel_rfl) (fun _ _ _ h => h) (Or.inl ⟨by kernel_rfl, ?_⟩) (by assumption) ?_; rotate_left 1; (intro W0 hSw; have oS := hSw.1; have oX := hSw.2; (have s0 : W0.cell? ⟨S, 0, none⟩ = some (.int .i64 rev) := (by rw [cell_of_block oS]; rfl)); (have s3 : W0.cell? ⟨S, 3, none⟩ = some (.map (some bn)) := (by rw [cell_of_block oS]; rfl)); (have e0 : W0.cell? ⟨W.heap.size, 0, none⟩ = some (.int .i64 kd) := (by rw [cell_of_block oX]; rfl)); (have e1 : W0.cell? ⟨W.heap.size, 1, none⟩ = some (.string key) := (by rw [cell_of_block oX]; rfl)); (have e2 : W0.cell? ⟨W.heap.size, 2, none⟩ = some (.string d') := (by rw [cell_of_block oX]; rfl)); go_simp; (try with_reducible rfl)); (try simp only [Act.put, List.setIfInBounds_toArray, List.set_cons_zero, List.set_cons_succ]))
  (refine wpAnyH_take (i := 1) (v := ?_) rfl (by kernel_rfl) (by kernel_rfl) (by kernel_rfl) (fun _ _ _ h => h) (Or.inl ⟨by kernel_rfl, ?_⟩) (by assumption) ?_; rotate_left 1; (intro W0 hSw; have oS := hSw.1; have oX := hSw.2; (have s0 : W0.cell? ⟨S, 0, none⟩ = some (.int .i64 rev) := (by rw [cell_of_block oS]; rfl)); (have s3 : W0.cell? ⟨S, 3, none⟩ = some (.map (some bn)) := (by rw [cell_of_block oS]; rfl)); (have e0 : W0.cell? ⟨W.heap.size, 0, none⟩ = some (.int .i64 kd) := (by rw [cell_of_block oX]; rfl)); (have e1 : W0.cell? ⟨W.heap.size, 1, none⟩ = some (.string key) := (by rw [cell_of_block oX]; rfl)); (have e2 : W0.cell? ⟨W.heap.size, 2, none⟩ = some (.string d') := (by rw [cell_of_block oX]; rfl)); go_simp; (try with_reducible rfl)); (try simp only [Act.put, List.setIfInBounds_toArray, List.set_cons_zero, List.set_cons_succ]))
  (refine wpAnyH_take (i := 2) (v := ?_) rfl (by kernel_rfl) (by kernel_rfl) (by kernel_rfl) (fun _ _ _ h => h) (Or.inl ⟨by kernel_rfl, ?_⟩) (by assumption) ?_; rotate_left 1; (intro W0 hSw; have oS := hSw.1; have oX := hSw.2; (have s0 : W0.cell? ⟨S, 0, none⟩ = some (.int .i64 rev) := (by rw [cell_of_block oS]; rfl)); (have s3 : W0.cell? ⟨S, 3, none⟩ = some (.map (some bn)) := (by rw [cell_of_block oS]; rfl)); (have e0 : W0.cell? ⟨W.heap.size, 0, none⟩ = some (.int .i64 kd) := (by rw [cell_of_block oX]; rfl)); (have e1 : W0.cell? ⟨W.heap.size, 1, none⟩ = some (.string key) := (by rw [cell_of_block oX]; rfl)); (have e2 : W0.cell? ⟨W.heap.size, 2, none⟩ = some (.string d') := (by rw [cell_of_block oX]; rfl)); go_simp; (try with_reducible rfl)); (try simp only [Act.put, List.setIfInBounds_toArray, List.set_cons_zero, List.set_cons_succ]))
  (refine wpAnyH_take (i := 3) (v := ?_) rfl (by kernel_rfl) (by kernel_rfl) (by kernel_rfl) (fun _ _ _ h => h) (Or.inl ⟨by kernel_rfl, ?_⟩) (by assumption) ?_; rotate_left 1; (intro W0 hSw; have oS := hSw.1; have oX := hSw.2; (have s0 : W0.cell? ⟨S, 0, none⟩ = some (.int .i64 rev) := (by rw [cell_of_block oS]; rfl)); (have s3 : W0.cell? ⟨S, 3, none⟩ = some (.map (some bn)) := (by rw [cell_of_block oS]; rfl)); (have e0 : W0.cell? ⟨W.heap.size, 0, none⟩ = some (.int .i64 kd) := (by rw [cell_of_block oX]; rfl)); (have e1 : W0.cell? ⟨W.heap.size, 1, none⟩ = some (.string key) := (by rw [cell_of_block oX]; rfl)); (have e2 : W0.cell? ⟨W.heap.size, 2, none⟩ = some (.string d') := (by rw [cell_of_block oX]; rfl)); go_simp; (try with_reducible rfl)); (try simp only [Act.put, List.setIfInBounds_toArray, List.set_cons_zero, List.set_cons_succ]))
  (refine wpAnyH_take (i := 4) (v := ?_) rfl (by kernel_rfl) (by kernel_rfl) (by kernel_rfl) (fun _ _ _ h => h) (Or.inl ⟨by kernel_rfl, ?_⟩) (by assumption) ?_; rotate_left 1; (intro W0 hSw; have oS := hSw.1; have oX := hSw.2; (have s0 : W0.cell? ⟨S, 0, none⟩ = some (.int .i64 rev) := (by rw [cell_of_block oS]; rfl)); (have s3 : W0.cell? ⟨S, 3, none⟩ = some (.map (some bn)) := (by rw [cell_of_block oS]; rfl)); (have e0 : W0.cell? ⟨W.heap.size, 0, none⟩ = some (.int .i64 kd) := (by rw [cell_of_block oX]; rfl)); (have e1 : W0.cell? ⟨W.heap.size, 1, none⟩ = some (.string key) := (by rw [cell_of_block oX]; rfl)); (have e2 : W0.cell? ⟨W.heap.size, 2, none⟩ = some (.string d') := (by rw [cell_of_block oX]; rfl)); go_simp; (try with_reducible rfl)); (try simp only [Act.put, List.setIfInBounds_toArray, List.set_cons_zero, List.set_cons_succ]))
  (refine wpAnyH_take (i := 5) (v := ?_) rfl (by kernel_rfl) (by kernel_rfl) (by kernel_rfl) (fun _ _ _ h => h) (Or.inl ⟨by kernel_rfl, ?_⟩) (by assumption) ?_; rotate_left 1; (intro W0 hSw; have oS := hSw.1; have oX := hSw.2; (have s0 : W0.cell? ⟨S, 0, none⟩ = some (.int .i64 rev) := (by rw [cell_of_block oS]; rfl)); (have s3 : W0.cell? ⟨S, 3, none⟩ = some (.map (some bn)) := (by rw [cell_of_block oS]; rfl)); (have e0 : W0.cell? ⟨W.heap.size, 0, none⟩ = some (.int .i64 kd) := (by rw [cell_of_block oX]; rfl)); (have e1 : W0.cell? ⟨W.heap.size, 1, none⟩ = some (.string key) := (by rw [cell_of_block oX]; rfl)); (have e2 : W0.cell? ⟨W.heap.size, 2, none⟩ = some (.string d') := (by rw [cell_of_block oX]; rfl)); go_simp; (try with_reducible rfl)); (try simp only [Act.put, List.setIfInBounds_toArray, List.set_cons_zero, List.set_cons_succ]))
  (refine wpAnyH_take (i := 6) (v := ?_) rfl (by kernel_rfl) (by kernel_rfl) (by kernel_rfl) (fun _ _ _ h => h) (Or.inl ⟨by kernel_rfl, ?_⟩) (by assumption) ?_; rotate_left 1; (intro W0 hSw; have oS := hSw.1; have oX := hSw.2; (have s0 : W0.cell? ⟨S, 0, none⟩ = some (.int .i64 rev) := (by rw [cell_of_block oS]; rfl)); (have s3 : W0.cell? ⟨S, 3, none⟩ = some (.map (some bn)) := (by rw [cell_of_block oS]; rfl)); (have e0 : W0.cell? ⟨W.heap.size, 0, none⟩ = some (.int .i64 kd) := (by rw [cell_of_block oX]; rfl)); (have e1 : W0.cell? ⟨W.heap.size, 1, none⟩ = some (.string key) := (by rw [cell_of_block oX]; rfl)); (have e2 : W0.cell? ⟨W.heap.size, 2, none⟩ = some (.string d') := (by rw [cell_of_block oX]; rfl)); go_simp; (try with_reducible rfl)); (try simp only [Act.put, List.setIfInBounds_toArray, List.set_cons_zero, List.set_cons_succ]))
  (refine wpAnyH_take (i := 7) (v := ?_) rfl (by kernel_rfl) (by kernel_rfl) (by kernel_rfl) (fun _ _ _ h => h) (Or.inl ⟨by kernel_rfl, ?_⟩) (by assumption) ?_; rotate_left 1; (intro W0 hSw; have oS := hSw.1; have oX := hSw.2; (have s0 : W0.cell? ⟨S, 0, none⟩ = some (.int .i64 rev) := (by rw [cell_of_block oS]; rfl)); (have s3 : W0.cell? ⟨S, 3, none⟩ = some (.map (some bn)) := (by rw [cell_of_block oS]; rfl)); (have e0 : W0.cell? ⟨W.heap.size, 0, none⟩ = some (.int .i64 kd) := (by rw [cell_of_block oX]; rfl)); (have e1 : W0.cell? ⟨W.heap.size, 1, none⟩ = some (.string key) := (by rw [cell_of_block oX]; rfl)); (have e2 : W0.cell? ⟨W.heap.size, 2, none⟩ = some (.string d') := (by rw [cell_of_block oX]; rfl)); go_simp; (try with_reducible rfl)); (try simp only [Act.put, List.setIfInBounds_toArray, List.set_cons_zero, List.set_cons_succ]))
  (refine wpAnyH_take (i := 8) (v := ?_) rfl (by kernel_rfl) (by kernel_rfl) (by kernel_rfl) (fun _ _ _ h => h) (Or.inl ⟨by kernel_rfl, ?_⟩) (by assumption) ?_; rotate_left 1; (intro W0 hSw; have oS := hSw.1; have oX := hSw.2; (have s0 : W0.cell? ⟨S, 0, none⟩ = some (.int .i64 rev) := (by rw [cell_of_block oS]; rfl)); (have s3 : W0.cell? ⟨S, 3, none⟩ = some (.map (some bn)) := (by rw [cell_of_block oS]; rfl)); (have e0 : W0.cell? ⟨W.heap.size, 0, none⟩ = some (.int .i64 kd) := (by rw [cell_of_block oX]; rfl)); (have e1 : W0.cell? ⟨W.heap.size, 1, none⟩ = some (.string key) := (by rw [cell_of_block oX]; rfl)); (have e2 : W0.cell? ⟨W.heap.size, 2, none⟩ = some (.string d') := (by rw [cell_of_block oX]; rfl)); go_simp; (try with_reducible rfl)); (try simp only [Act.put, List.setIfInBounds_toArray, List.set_cons_zero, List.set_cons_succ]))
  have b4 : Below W3.heap.size W3 ((W3.alloc (.cells #[.int .i64 kd, .string key, .string d'] 60)).drew) := (one_belowG W3 _).drew
  have hT : ((W3.alloc (.cells #[.int .i64 kd, .string key, .string d'] 60)).drew).heap[W3.heap.size]? = some (.cells #[.int .i64 kd, .string key, .string d'] 60) := heap_alloc_new W3 _
  have h4 := H3.out.keep b4
  have hX4 := (b4.block _ hz3).trans HX3.out
  have hz4 := b4.size
  have hz4' : W3.heap.size < ((W3.alloc (.cells #[.int .i64 kd, .string key, .string d'] 60)).drew).heap.size := lt_of_block hT
  refine wpAnyH_ready (rs := [9]) (by kernel_rfl) (by simp) ?_
  refine AllReadyH.cons rfl (fun K hK => ?_) AllReadyH.nil
  go_simp
  refine hK.out _ _ ⟨h4.box, hX4⟩ (fun hHeld => ?_)
  clear hK K
  (try simp only [Act.put, List.setIfInBounds_toArray, List.set_cons_zero, List.set_cons_succ])
  have H4 := hmk h4
  have HX4 := hmk hX4
  have HT4 := hmk hT
  clear h4 hX4 hT b4
  generalize ((W3.alloc (.cells #[.int .i64 kd, .string key, .string d'] 60)).drew) = W4 at *
  have CF := follow_one bn n DN rev kd key d' W3.heap.size 0 1 W4 H4.out.now (by omega) hr HKD.out HKS.out (by rw [cell_of_block HT4.out]; rfl) (by rw [cell_of_block HT4.out]; rfl) (by rw [cell_of_block HT4.out]; rfl)
  refine wpAnyH_ready (rs := [10]) (by kernel_rfl) (by simp) ?_
  refine AllReadyH.cons rfl (fun K hK => ?_) AllReadyH.nil
  go_simp
  refine CF.mono ?_
  clear CF
  rintro e W5 ⟨rfl, n5, g5⟩
  have hz5 := g5.size
  have hnS : S ≠ bn := fun q => map_ne H4.out.now H4.out.box q.symm
  have hnX : W.heap.size ≠ bn := fun q => by have := (HLT.out bn (.inr (.inr (.inl rfl)))).1; omega
  have hbS := (g5.block S (lt_of_block H4.out.box) (fun e => hnS (Option.some.inj e))).trans H4.out.box
  have hbX := (g5.block W.heap.size (lt_of_block HX4.out) (fun e => hnX (Option.some.inj e))).trans HX4.out
  have hbb : W5.ownsMap Try.prog 9 oR bb n D := map_keep H4.out.base (g5.block bb H4.out.base.lt (fun e => H4.out.ne (Option.some.inj e)))
  have hpp : Pst W5 F pv l := H4.out.past.keep (fun _ _ => trivial) (fun g a m c e => g5.block g (H4.out.ng e).2.2.2.2 (fun q => (H4.out.ng e).2.2.1 (Option.some.inj q)))
  have hB5 : Fr F w0 W5 := H4.out.bel.grown g5 H4.out.b2
  refine hK.out _ _ ⟨hbS, hbX⟩ (fun hHeld => ?_)
  clear hK K
  (try simp only [Act.put, List.setIfInBounds_toArray, List.set_cons_zero, List.set_cons_succ])
  refine wpAnyH_done (by kernel_rfl) ?_ _
  (try dsimp only [Act.put, List.getElem_toArray, List.getElem_cons_succ, List.getElem_cons_zero, List.setIfInBounds_toArray, List.set_cons_zero, List.set_cons_succ])
  clear hHeld
  go_wp2_with fail
  have h5 : Hid (Sto F w0 W5 S rev floor bb bn n D DN pv l → True) := fun _ => trivial
  have hSlt := lt_of_block hbS
  have hXlt := lt_of_block hbX
  have HNG : Hid (∀ g a m c, pv = .slice (some ⟨g, a, none⟩) m c → g ≠ S ∧ g ≠ bb ∧ g ≠ bn ∧ ¬ F g ∧ g < W5.heap.size ∧ g ≠ W.heap.size) := fun g a m c e => by
    obtain ⟨q1, q2, q3, q4, q5⟩ := H4.out.ng e
    exact ⟨q1, q2, q3, q4, by omega, fun q => by have := (HLT.out g (.inr (.inr (.inr ⟨a, m, c, e⟩)))).1; omega⟩
  have hbS' : S ≠ W.heap.size := by omega
  have hbbn : bb ≠ S := map_ne hbb hbS
  have hbnn : bn ≠ S := map_ne n5 hbS
  have hok := H4.out.ok
  have hs0 := H4.out.s
  have hb1 := H4.out.b1
  have hb2 := H4.out.b2
  have hne := H4.out.ne
  have HbS := hmk hbS
  have HbX := hmk hbX
  have Hbb := hmk hbb
  have Hn5 := hmk n5
  have Hpp := hmk hpp
  have HB5 := hmk hB5
  clear hbS hbX hbb n5 hpp hB5 H3 HX3 H4 HX4 HT4 g5 h5
  have p4 : W5.drew.cell? ⟨S, 4, none⟩ = some pv := by show W5.cell? ⟨S, 4, none⟩ = some pv; rw [cell_of_block HbS.out]; rfl
  refine wp_region_held_drew (S := fun Y => Y.heap[W.heap.size]? = some (.cells #[.int .i64 kd, .string key, .string d'] 60)) (by kernel_rfl) HbX.out (fun hHeld => ?_)
  (refine wpAnyH_take (i := 0) (v := ?_) rfl (by kernel_rfl) (by kernel_rfl) (by kernel_rfl) (fun _ _ _ h => h) (Or.inl ⟨by kernel_rfl, ?_⟩) (by assumption) ?_; rotate_left 1; (intro W0 hSw; have oX := hSw; (have e0 : W0.cell? ⟨W.heap.size, 0, none⟩ = some (.int .i64 kd) := (by rw [cell_of_block oX]; rfl)); (have e1 : W0.cell? ⟨W.heap.size, 1, none⟩ = some (.string key) := (by rw [cell_of_block oX]; rfl)); (have e2 : W0.cell? ⟨W.heap.size, 2, none⟩ = some (.string d') := (by rw [cell_of_block oX]; rfl)); go_simp; (try with_reducible rfl)); (try simp only [Act.put, List.setIfInBounds_toArray, List.set_cons_zero, List.set_cons_succ]))
  (refine wpAnyH_take (i := 1) (v := ?_) rfl (by kernel_rfl) (by kernel_rfl) (by kernel_rfl) (fun _ _ _ h => h) (Or.inl ⟨by kernel_rfl, ?_⟩) (by assumption) ?_; rotate_left 1; (intro W0 hSw; have oX := hSw; (have e0 : W0.cell? ⟨W.heap.size, 0, none⟩ = some (.int .i64 kd) := (by rw [cell_of_block oX]; rfl)); (have e1 : W0.cell? ⟨W.heap.size, 1, none⟩ = some (.string key) := (by rw [cell_of_block oX]; rfl)); (have e2 : W0.cell? ⟨W.heap.size, 2, none⟩ = some (.string d') := (by rw [cell_of_block oX]; rfl)); go_simp; (try with_reducible rfl)); (try simp only [Act.put, List.setIfInBounds_toArray, List.set_cons_zero, List.set_cons_succ]))
  (refine wpAnyH_take (i := 2) (v := ?_) rfl (by kernel_rfl) (by kernel_rfl) (by kernel_rfl) (fun _ _ _ h => h) (Or.inl ⟨by kernel_rfl, ?_⟩) (by assumption) ?_; rotate_left 1; (intro W0 hSw; have oX := hSw; (have e0 : W0.cell? ⟨W.heap.size, 0, none⟩ = some (.int .i64 kd) := (by rw [cell_of_block oX]; rfl)); (have e1 : W0.cell? ⟨W.heap.size, 1, none⟩ = some (.string key) := (by rw [cell_of_block oX]; rfl)); (have e2 : W0.cell? ⟨W.heap.size, 2, none⟩ = some (.string d') := (by rw [cell_of_block oX]; rfl)); go_simp; (try with_reducible rfl)); (try simp only [Act.put, List.setIfInBounds_toArray, List.set_cons_zero, List.set_cons_succ]))
  (refine wpAnyH_take (i := 3) (v := ?_) rfl (by kernel_rfl) (by kernel_rfl) (by kernel_rfl) (fun _ _ _ h => h) (Or.inl ⟨by kernel_rfl, ?_⟩) (by assumption) ?_; rotate_left 1; (intro W0 hSw; have oX := hSw; (have e0 : W0.cell? ⟨W.heap.size, 0, none⟩ = some (.int .i64 kd) := (by rw [cell_of_block oX]; rfl)); (have e1 : W0.cell? ⟨W.heap.size, 1, none⟩ = some (.string key) := (by rw [cell_of_block oX]; rfl)); (have e2 : W0.cell? ⟨W.heap.size, 2, none⟩ = some (.string d') := (by rw [cell_of_block oX]; rfl)); go_simp; (try with_reducible rfl)); (try simp only [Act.put, List.setIfInBounds_toArray, List.set_cons_zero, List.set_cons_succ]))
  (refine wpAnyH_take (i := 5) (v := ?_) rfl (by kernel_rfl) (by kernel_rfl) (by kernel_rfl) (fun _ _ _ h => h) (Or.inl ⟨by kernel_rfl, ?_⟩) (by assumption) ?_; rotate_left 1; (intro W0 hSw; have oX := hSw; (have e0 : W0.cell? ⟨W.heap.size, 0, none⟩ = some (.int .i64 kd) := (by rw [cell_of_block oX]; rfl)); (have e1 : W0.cell? ⟨W.heap.size, 1, none⟩ = some (.string key) := (by rw [cell_of_block oX]; rfl)); (have e2 : W0.cell? ⟨W.heap.size, 2, none⟩ = some (.string d') := (by rw [cell_of_block oX]; rfl)); go_simp; (try with_reducible rfl)); (try simp only [Act.put, List.setIfInBounds_toArray, List.set_cons_zero, List.set_cons_succ]))
  refine wpAnyH_ready (rs := [4, 6]) (by kernel_rfl) (by simp) ?_
  refine (AllReadyH.cons rfl (fun K hK => ?_) (AllReadyH.cons rfl (fun K hK => ?_) AllReadyH.nil))
  · skip
    go_simp
    refine hK.out _ _ HbX.out (fun hHeld => ?_)
    clear hK K p4
    (try simp only [Act.put, List.setIfInBounds_toArray, List.set_cons_zero, List.set_cons_succ])
    have b6 : Below W5.heap.size W5 ((W5.alloc (.cells #[.int .i64 kd, .string key, .string d'] 60)).drew) := (one_belowG W5 _).drew
    have hT6 : ((W5.alloc (.cells #[.int .i64 kd, .string key, .string d'] 60)).drew).heap[W5.heap.size]? = some (.cells #[.int .i64 kd, .string key, .string d'] 60) := heap_alloc_new W5 _
    have p6 : ((W5.alloc (.cells #[.int .i64 kd, .string key, .string d'] 60)).drew).cell? ⟨S, 4, none⟩ = some pv := by rw [cell_of_block ((b6.block S hSlt).trans HbS.out)]; rfl
    have hX6 := (b6.block _ hXlt).trans HbX.out
    refine wpAnyH_ready (rs := [6]) (by kernel_rfl) (by simp) ?_
    refine AllReadyH.cons rfl (fun K hK => ?_) AllReadyH.nil
    go_simp
    refine hK.out _ _ hX6 (fun hHeld => ?_)
    clear hK K
    (try simp only [Act.put, List.setIfInBounds_toArray, List.set_cons_zero, List.set_cons_succ])
    have HT6 := hmk hT6
    have B6 := hmk b6
    clear hT6 p6 hX6 b6
    generalize ((W5.alloc (.cells #[.int .i64 kd, .string key, .string d'] 60)).drew) = W6 at *
    have hz6 := B6.out.size
    obtain ⟨pv', W7, hrun, P7, hG⟩ := (Hpp.out.keep (fun _ _ => trivial) (fun g a m c e => B6.out.block g (HNG.out g a m c e).2.2.2.2.1)).push 55 HT6.out (fun y hy => HB5.out.new (by omega)) (by omega) (fun g a m c e => by have := (HNG.out g a m c e).2.2.2.2.1; omega)
    obtain ⟨g', a', m', c', rfl, g7, hor⟩ := hG
    have hgg : g' ≠ S ∧ g' ≠ bb ∧ g' ≠ bn ∧ ¬ F g' ∧ g' ≠ W.heap.size := by
      have := Hbb.out.lt
      have := Hn5.out.lt
      have := HB5.out.size
      rcases hor with ⟨a, m, c, e⟩ | h
      · have := HNG.out g' a m c e; exact ⟨this.1, this.2.1, this.2.2.1, this.2.2.2.1, this.2.2.2.2.2⟩
      · exact ⟨by omega, by omega, by omega, HB5.out.new (by omega), by omega⟩
    have k7 : ∀ y, y < W5.heap.size → y ≠ g' → W7.heap[y]? = W5.heap[y]? := fun y hy hn => (g7.block y (by omega) (fun e => hn (Option.some.inj e).symm.symm)).trans (B6.out.block y hy)
    have hS7 := (k7 S hSlt (fun q => hgg.1 q.symm)).trans HbS.out
    have hX7 := (k7 W.heap.size hXlt (fun q => hgg.2.2.2.2 q.symm)).trans HbX.out
    have hbb7 := map_keep Hbb.out (k7 bb Hbb.out.lt (fun q => hgg.2.1 q.symm))
    have hbn7 := map_keep Hn5.out (k7 bn Hn5.out.lt (fun q => hgg.2.2.1 q.symm))
    have hB7 : Fr F w0 W7 := (HB5.out.below B6.out).grown g7 hgg.2.2.2.1
    have HM : Hid (m' = l.length + 1) := by
      rcases P7.p with ⟨q, _⟩ | ⟨g, o, c, sz, q, _⟩
      · simp at q
      · simp only [Value.slice.injEq] at q; show m' = _; rw [q.2.1]; simp
    have hml : m' ≤ 65536 := by rw [HM.out]; omega
    refine wpAnyH_ready (rs := [7]) (by kernel_rfl) (by simp) ?_
    refine AllReadyH.cons rfl (fun K hK => ?_) AllReadyH.nil
    refine step_app rfl (.tmp 43) (.tmp 45) 55 rfl pv (.slice (some ⟨W5.heap.size, 0, none⟩) 1 1) _ rfl rfl hrun ?_
    refine hK.out _ _ hX7 (fun hHeld => ?_)
    clear hK K hrun
    (try simp only [Act.put, List.setIfInBounds_toArray, List.set_cons_zero, List.set_cons_succ])
    (refine wpAnyH_take (i := 8) (v := ?_) rfl (by kernel_rfl) (by kernel_rfl) (by kernel_rfl) (fun _ _ _ h => h) (Or.inl ⟨by kernel_rfl, ?_⟩) (by assumption) ?_; rotate_left 1; (intro W0 hSw; have oX := hSw; (have e0 : W0.cell? ⟨W.heap.size, 0, none⟩ = some (.int .i64 kd) := (by rw [cell_of_block oX]; rfl)); (have e1 : W0.cell? ⟨W.heap.size, 1, none⟩ = some (.string key) := (by rw [cell_of_block oX]; rfl)); (have e2 : W0.cell? ⟨W.heap.size, 2, none⟩ = some (.string d') := (by rw [cell_of_block oX]; rfl)); go_simp; (try with_reducible rfl)); (try simp only [Act.put, List.setIfInBounds_toArray, List.set_cons_zero, List.set_cons_succ]))
    (refine wpAnyH_take (i := 9) (v := ?_) rfl (by kernel_rfl) (by kernel_rfl) (by kernel_rfl) (fun _ _ _ h => h) (Or.inl ⟨by kernel_rfl, ?_⟩) (by assumption) ?_; rotate_left 1; (intro W0 hSw; have oX := hSw; (have e0 : W0.cell? ⟨W.heap.size, 0, none⟩ = some (.int .i64 kd) := (by rw [cell_of_block oX]; rfl)); (have e1 : W0.cell? ⟨W.heap.size, 1, none⟩ = some (.string key) := (by rw [cell_of_block oX]; rfl)); (have e2 : W0.cell? ⟨W.heap.size, 2, none⟩ = some (.string d') := (by rw [cell_of_block oX]; rfl)); go_simp; (try with_reducible rfl)); (try simp only [Act.put, List.setIfInBounds_toArray, List.set_cons_zero, List.set_cons_succ]))
    have s4 : W7.cell? ⟨S, 4, none⟩ = some pv := by rw [cell_of_block hS7]; rfl
    have f4 : W7.frozen? ⟨S, 4, none⟩ = false := frozen_of_block hS7 4
    refine wpAnyH_ready (rs := [10]) (by kernel_rfl) (by simp) ?_
    refine AllReadyH.cons rfl (fun K hK => ?_) AllReadyH.nil
    go_simp
    refine hK.out _ _ ((set_other (by omega)).trans hX7) (fun hHeld => ?_)
    clear hK K
    (try simp only [Act.put, List.setIfInBounds_toArray, List.set_cons_zero, List.set_cons_succ])
    refine wpAnyH_done (by kernel_rfl) ?_ _
    (try dsimp only [Act.put, List.getElem_toArray, List.getElem_cons_succ, List.getElem_cons_zero, List.setIfInBounds_toArray, List.set_cons_zero, List.set_cons_succ])
    clear hHeld s4 f4
    have hS8 : (W7.setCell ⟨S, 4, none⟩ (.slice (some ⟨g', a', none⟩) m' c')).heap[S]? = some (.cells #[.int .i64 rev, .int .i64 floor, .map (some bb), .map (some bn), .slice (some ⟨g', a', none⟩) m' c'] 57) := set_block hS7 4 _
    have hS9 : ((W7.setCell ⟨S, 4, none⟩ (.slice (some ⟨g', a', none⟩) m' c')).setCell ⟨S, 0, none⟩ (.int .i64 (rev + 1))).heap[S]? = some (.cells #[.int .i64 (rev + 1), .int .i64 floor, .map (some bb), .map (some bn), .slice (some ⟨g', a', none⟩) m' c'] 57) := set_block hS8 0 _
    have c0 : (W7.setCell ⟨S, 4, none⟩ (.slice (some ⟨g', a', none⟩) m' c')).cell? ⟨S, 0, none⟩ = some (.int .i64 rev) := by rw [cell_of_block hS8]; rfl
    have f0 : (W7.setCell ⟨S, 4, none⟩ (.slice (some ⟨g', a', none⟩) m' c')).frozen? ⟨S, 0, none⟩ = false := frozen_of_block hS8 0
    have c4 : ((W7.setCell ⟨S, 4, none⟩ (.slice (some ⟨g', a', none⟩) m' c')).setCell ⟨S, 0, none⟩ (.int .i64 (rev + 1))).cell? ⟨S, 4, none⟩ = some (.slice (some ⟨g', a', none⟩) m' c') := by rw [cell_of_block hS9]; rfl
    have c0' : ((W7.setCell ⟨S, 4, none⟩ (.slice (some ⟨g', a', none⟩) m' c')).setCell ⟨S, 0, none⟩ (.int .i64 (rev + 1))).cell? ⟨S, 0, none⟩ = some (.int .i64 (rev + 1)) := by rw [cell_of_block hS9]; rfl
    have yl : ¬ (65536 : Int) < m' := by omega
    have k9 : ∀ y, y ≠ S → ((W7.setCell ⟨S, 4, none⟩ (.slice (some ⟨g', a', none⟩) m' c')).setCell ⟨S, 0, none⟩ (.int .i64 (rev + 1))).heap[y]? = W7.heap[y]? := fun y hy => (set_other hy).trans (set_other hy)
    have h9 : Hid (Sto F w0 ((W7.setCell ⟨S, 4, none⟩ (.slice (some ⟨g', a', none⟩) m' c')).setCell ⟨S, 0, none⟩ (.int .i64 (rev + 1))) S (rev + 1) floor bb bn (n + 1) D (wr DN kd key (rev + 1) d') (.slice (some ⟨g', a', none⟩) m' c') (l ++ [(kd, key, d')])) :=
      ⟨(hB7.grown (grown_set1 W7 S 4 _) hs0).grown (grown_set1 _ S 0 _) hs0, hS9, (map_keep hbb7 (k9 bb hbbn)).mono (by omega), map_keep hbn7 (k9 bn hbnn), P7.keep (fun _ _ => trivial) (fun g a m c e => k9 g (by simp only [Value.slice.injEq, Option.some.injEq, Addr.mk.injEq] at e; rw [← e.1.1]; exact hgg.1)), hs0, hb1, hb2, hne, fun e he => by
        rcases List.mem_append.1 he with he | he
        · exact hok e he
        · rw [List.mem_singleton.1 he]; exact ⟨HKD.out, HKS.out⟩⟩
    clear hml P7 hS7 hX7 hbb7 hbn7 hB7 k7 k9 hS8 hS9 HM
    go_wp2_with fail
    go_ret2
    exact ⟨rfl, _, h9.out⟩
  · skip
    clear p4
    have b6 : Below W5.heap.size W5 ((W5.alloc (.cells #[.int .i64 kd, .string key, .string d'] 60)).drew) := (one_belowG W5 _).drew
    have hT6 : ((W5.alloc (.cells #[.int .i64 kd, .string key, .string d'] 60)).drew).heap[W5.heap.size]? = some (.cells #[.int .i64 kd, .string key, .string d'] 60) := heap_alloc_new W5 _
    have p6 : ((W5.alloc (.cells #[.int .i64 kd, .string key, .string d'] 60)).drew).cell? ⟨S, 4, none⟩ = some pv := by rw [cell_of_block ((b6.block S hSlt).trans HbS.out)]; rfl
    have hX6 := (b6.block _ hXlt).trans HbX.out
    go_simp
    refine hK.out _ _ hX6 (fun hHeld => ?_)
    clear hK K
    (try simp only [Act.put, List.setIfInBounds_toArray, List.set_cons_zero, List.set_cons_succ])
    refine wpAnyH_ready (rs := [4]) (by kernel_rfl) (by simp) ?_
    refine AllReadyH.cons rfl (fun K hK => ?_) AllReadyH.nil
    go_simp
    refine hK.out _ _ hX6 (fun hHeld => ?_)
    clear hK K
    (try simp only [Act.put, List.setIfInBounds_toArray, List.set_cons_zero, List.set_cons_succ])
    have HT6 := hmk hT6
    have B6 := hmk b6
    clear hT6 p6 hX6 b6
    generalize ((W5.alloc (.cells #[.int .i64 kd, .string key, .string d'] 60)).drew) = W6 at *
    have hz6 := B6.out.size
    obtain ⟨pv', W7, hrun, P7, hG⟩ := (Hpp.out.keep (fun _ _ => trivial) (fun g a m c e => B6.out.block g (HNG.out g a m c e).2.2.2.2.1)).push 55 HT6.out (fun y hy => HB5.out.new (by omega)) (by omega) (fun g a m c e => by have := (HNG.out g a m c e).2.2.2.2.1; omega)
    obtain ⟨g', a', m', c', rfl, g7, hor⟩ := hG
    have hgg : g' ≠ S ∧ g' ≠ bb ∧ g' ≠ bn ∧ ¬ F g' ∧ g' ≠ W.heap.size := by
      have := Hbb.out.lt
      have := Hn5.out.lt
      have := HB5.out.size
      rcases hor with ⟨a, m, c, e⟩ | h
      · have := HNG.out g' a m c e; exact ⟨this.1, this.2.1, this.2.2.1, this.2.2.2.1, this.2.2.2.2.2⟩
      · exact ⟨by omega, by omega, by omega, HB5.out.new (by omega), by omega⟩
    have k7 : ∀ y, y < W5.heap.size → y ≠ g' → W7.heap[y]? = W5.heap[y]? := fun y hy hn => (g7.block y (by omega) (fun e => hn (Option.some.inj e).symm.symm)).trans (B6.out.block y hy)
    have hS7 := (k7 S hSlt (fun q => hgg.1 q.symm)).trans HbS.out
    have hX7 := (k7 W.heap.size hXlt (fun q => hgg.2.2.2.2 q.symm)).trans HbX.out
    have hbb7 := map_keep Hbb.out (k7 bb Hbb.out.lt (fun q => hgg.2.1 q.symm))
    have hbn7 := map_keep Hn5.out (k7 bn Hn5.out.lt (fun q => hgg.2.2.1 q.symm))
    have hB7 : Fr F w0 W7 := (HB5.out.below B6.out).grown g7 hgg.2.2.2.1
    have HM : Hid (m' = l.length + 1) := by
      rcases P7.p with ⟨q, _⟩ | ⟨g, o, c, sz, q, _⟩
      · simp at q
      · simp only [Value.slice.injEq] at q; show m' = _; rw [q.2.1]; simp
    have hml : m' ≤ 65536 := by rw [HM.out]; omega
    refine wpAnyH_ready (rs := [7]) (by kernel_rfl) (by simp) ?_
    refine AllReadyH.cons rfl (fun K hK => ?_) AllReadyH.nil
    refine step_app rfl (.tmp 43) (.tmp 45) 55 rfl pv (.slice (some ⟨W5.heap.size, 0, none⟩) 1 1) _ rfl rfl hrun ?_
    refine hK.out _ _ hX7 (fun hHeld => ?_)
    clear hK K hrun
    (try simp only [Act.put, List.setIfInBounds_toArray, List.set_cons_zero, List.set_cons_succ])
    (refine wpAnyH_take (i := 8) (v := ?_) rfl (by kernel_rfl) (by kernel_rfl) (by kernel_rfl) (fun _ _ _ h => h) (Or.inl ⟨by kernel_rfl, ?_⟩) (by assumption) ?_; rotate_left 1; (intro W0 hSw; have oX := hSw; (have e0 : W0.cell? ⟨W.heap.size, 0, none⟩ = some (.int .i64 kd) := (by rw [cell_of_block oX]; rfl)); (have e1 : W0.cell? ⟨W.heap.size, 1, none⟩ = some (.string key) := (by rw [cell_of_block oX]; rfl)); (have e2 : W0.cell? ⟨W.heap.size, 2, none⟩ = some (.string d') := (by rw [cell_of_block oX]; rfl)); go_simp; (try with_reducible rfl)); (try simp only [Act.put, List.setIfInBounds_toArray, List.set_cons_zero, List.set_cons_succ]))
    (refine wpAnyH_take (i := 9) (v := ?_) rfl (by kernel_rfl) (by kernel_rfl) (by kernel_rfl) (fun _ _ _ h => h) (Or.inl ⟨by kernel_rfl, ?_⟩) (by assumption) ?_; rotate_left 1; (intro W0 hSw; have oX := hSw; (have e0 : W0.cell? ⟨W.heap.size, 0, none⟩ = some (.int .i64 kd) := (by rw [cell_of_block oX]; rfl)); (have e1 : W0.cell? ⟨W.heap.size, 1, none⟩ = some (.string key) := (by rw [cell_of_block oX]; rfl)); (have e2 : W0.cell? ⟨W.heap.size, 2, none⟩ = some (.string d') := (by rw [cell_of_block oX]; rfl)); go_simp; (try with_reducible rfl)); (try simp only [Act.put, List.setIfInBounds_toArray, List.set_cons_zero, List.set_cons_succ]))
    have s4 : W7.cell? ⟨S, 4, none⟩ = some pv := by rw [cell_of_block hS7]; rfl
    have f4 : W7.frozen? ⟨S, 4, none⟩ = false := frozen_of_block hS7 4
    refine wpAnyH_ready (rs := [10]) (by kernel_rfl) (by simp) ?_
    refine AllReadyH.cons rfl (fun K hK => ?_) AllReadyH.nil
    go_simp
    refine hK.out _ _ ((set_other (by omega)).trans hX7) (fun hHeld => ?_)
    clear hK K
    (try simp only [Act.put, List.setIfInBounds_toArray, List.set_cons_zero, List.set_cons_succ])
    refine wpAnyH_done (by kernel_rfl) ?_ _
    (try dsimp only [Act.put, List.getElem_toArray, List.getElem_cons_succ, List.getElem_cons_zero, List.setIfInBounds_toArray, List.set_cons_zero, List.set_cons_succ])
    clear hHeld s4 f4
    have hS8 : (W7.setCell ⟨S, 4, none⟩ (.slice (some ⟨g', a', none⟩) m' c')).heap[S]? = some (.cells #[.int .i64 rev, .int .i64 floor, .map (some bb), .map (some bn), .slice (some ⟨g', a', none⟩) m' c'] 57) := set_block hS7 4 _
    have hS9 : ((W7.setCell ⟨S, 4, none⟩ (.slice (some ⟨g', a', none⟩) m' c')).setCell ⟨S, 0, none⟩ (.int .i64 (rev + 1))).heap[S]? = some (.cells #[.int .i64 (rev + 1), .int .i64 floor, .map (some bb), .map (some bn), .slice (some ⟨g', a', none⟩) m' c'] 57) := set_block hS8 0 _
    have c0 : (W7.setCell ⟨S, 4, none⟩ (.slice (some ⟨g', a', none⟩) m' c')).cell? ⟨S, 0, none⟩ = some (.int .i64 rev) := by rw [cell_of_block hS8]; rfl
    have f0 : (W7.setCell ⟨S, 4, none⟩ (.slice (some ⟨g', a', none⟩) m' c')).frozen? ⟨S, 0, none⟩ = false := frozen_of_block hS8 0
    have c4 : ((W7.setCell ⟨S, 4, none⟩ (.slice (some ⟨g', a', none⟩) m' c')).setCell ⟨S, 0, none⟩ (.int .i64 (rev + 1))).cell? ⟨S, 4, none⟩ = some (.slice (some ⟨g', a', none⟩) m' c') := by rw [cell_of_block hS9]; rfl
    have c0' : ((W7.setCell ⟨S, 4, none⟩ (.slice (some ⟨g', a', none⟩) m' c')).setCell ⟨S, 0, none⟩ (.int .i64 (rev + 1))).cell? ⟨S, 0, none⟩ = some (.int .i64 (rev + 1)) := by rw [cell_of_block hS9]; rfl
    have yl : ¬ (65536 : Int) < m' := by omega
    have k9 : ∀ y, y ≠ S → ((W7.setCell ⟨S, 4, none⟩ (.slice (some ⟨g', a', none⟩) m' c')).setCell ⟨S, 0, none⟩ (.int .i64 (rev + 1))).heap[y]? = W7.heap[y]? := fun y hy => (set_other hy).trans (set_other hy)
    have h9 : Hid (Sto F w0 ((W7.setCell ⟨S, 4, none⟩ (.slice (some ⟨g', a', none⟩) m' c')).setCell ⟨S, 0, none⟩ (.int .i64 (rev + 1))) S (rev + 1) floor bb bn (n + 1) D (wr DN kd key (rev + 1) d') (.slice (some ⟨g', a', none⟩) m' c') (l ++ [(kd, key, d')])) :=
      ⟨(hB7.grown (grown_set1 W7 S 4 _) hs0).grown (grown_set1 _ S 0 _) hs0, hS9, (map_keep hbb7 (k9 bb hbbn)).mono (by omega), map_keep hbn7 (k9 bn hbnn), P7.keep (fun _ _ => trivial) (fun g a m c e => k9 g (by simp only [Value.slice.injEq, Option.some.injEq, Addr.mk.injEq] at e; rw [← e.1.1]; exact hgg.1)), hs0, hb1, hb2, hne, fun e he => by
        rcases List.mem_append.1 he with he | he
        · exact hok e he
        · rw [List.mem_singleton.1 he]; exact ⟨HKD.out, HKS.out⟩⟩
    clear hml P7 hS7 hX7 hbb7 hbn7 hB7 k7 k9 hS8 hS9 HM
    go_wp2_with fail
    go_ret2
    exact ⟨rfl, _, h9.out⟩
end Go.Proofs.Ytpbejbpimcidjaa
