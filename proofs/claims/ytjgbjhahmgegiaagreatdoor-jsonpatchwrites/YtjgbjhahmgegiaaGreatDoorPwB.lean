import Derived.Test.YtjgbjhahmgegiaaGreatDoorPjK
import Derived.Test.YtjgbjhahmgegiaaGreatDoorPwA
import Derived.Test.YtjgbjhahmgegiaaGreatDoorTwvA
/- a patch as a value, plain; str; a map that is put together member by member. -/
set_option linter.unusedSimpArgs false
set_option linter.unusedVariables false
set_option maxRecDepth 100000
namespace Go.Proofs.YtjgbjhahmgegiaaGreatDoor
open Go.RowKit Go.Lib
def strV (s : ByteArray) : V := .mk 3 false 0 s [] []
/-- the members of a step -/
def wrM (x : Stp) : List Mem := (if fromF x.1 = true then [(kFrom, strV x.2.2.1)] else []) ++ [(kOp, strV x.1), (kPath, strV x.2.1)] ++ (if valF x.1 = true then [(kVal, x.2.2.2)] else [])
def wrV (x : Stp) : V := .mk 5 false 0 noS [] (wrM x)
def lisV (l : List V) : V := .mk 4 false 0 noS l []
/-- what is wrong with a step -/
def stE (x : Stp) : Nat := fltF x.1 x.2.1 x.2.2.1 x.2.2.2
/-- what Print answers, from the step j on, with what was written so far -/
def prnL : List Stp → Nat → List V → V × Int × Nat
  | [], _, acc => if chkE (lisV acc) 40 ≠ 0 then (nullV, -1, chkE (lisV acc) 40) else (lisV acc, -1, 0)
  | x :: l, i, acc => if stE x = 0 then prnL l (i + 1) (acc ++ [wrV x]) else (nullV, (i : Int), stE x)
def prnF (l : List Stp) : V × Int × Nat := if 256 < l.length then (nullV, -1, 63) else prnL l 0 []
theorem prn_go {l : List Stp} {j : Nat} {acc : List V} (hj : j < l.length) (h : stE l[j] = 0) : prnL (l.drop j) j acc = prnL (l.drop (j + 1)) (j + 1) (acc ++ [wrV l[j]]) := by
  rw [List.drop_eq_getElem_cons hj, prnL, if_pos h]
theorem prn_bad {l : List Stp} {j : Nat} {acc : List V} (hj : j < l.length) (h : stE l[j] ≠ 0) : prnL (l.drop j) j acc = (nullV, (j : Int), stE l[j]) := by
  rw [List.drop_eq_getElem_cons hj, prnL, if_neg h]
theorem prn_over {l : List Stp} {acc : List V} (h : chkE (lisV acc) 40 ≠ 0) : prnL (l.drop l.length) l.length acc = (nullV, -1, chkE (lisV acc) 40) := by
  rw [List.drop_length, prnL, if_pos h]
theorem prn_end {l : List Stp} {acc : List V} (h : chkE (lisV acc) 40 = 0) : prnL (l.drop l.length) l.length acc = (lisV acc, -1, 0) := by
  rw [List.drop_length, prnL, if_neg (by rw [h]; simp)]
theorem prn_many {l : List Stp} (h : 256 < l.length) : prnF l = (nullV, -1, 63) := by rw [prnF, if_pos h]
theorem prn_rows {l : List Stp} (h : ¬ 256 < l.length) : prnF l = prnL l 0 [] := by rw [prnF, if_neg h]
theorem str_wt (s : ByteArray) : (strV s).wt = 1 + s.size := by simp [strV, V.wt, wtL, wtM]
theorem wr_wt (x : Stp) : (wrV x).wt ≤ stW x + 20 := by
  obtain ⟨op, pa, fr, v⟩ := x
  have h1 : kFrom.size = 4 := rfl
  have h2 : kOp.size = 2 := rfl
  have h3 : kPath.size = 4 := rfl
  have h4 : kVal.size = 5 := rfl
  have h5 : noS.size = 0 := rfl
  simp only [wrV, wrM, V.wt, wtL, stW]
  rcases Bool.eq_false_or_eq_true (fromF op) with hf | hf <;> rcases Bool.eq_false_or_eq_true (valF op) with hx | hx <;> simp [hf, hx, wtM, str_wt, h1, h2, h3, h4, h5] <;> omega
theorem wr_wtL : ∀ l : List Stp, wtL (l.map wrV) ≤ wtT l + 20 * l.length
  | [] => by simp [wtL, wtT]
  | x :: t => by
    have h1 := wr_wtL t
    have h2 := wr_wt x
    simp only [List.map_cons, wtL, wtT, List.length_cons]
    omega
theorem lis_wt (l : List V) : (lisV l).wt = 1 + wtL l := by
  have h5 : noS.size = 0 := rfl
  simp [lisV, V.wt, wtM, h5]
/-- the blocks of A are as they were in w -/
def KeepB (w : World) (A : Nat → Prop) (W : World) : Prop := ∀ b, A b → W.heap[b]? = w.heap[b]?
theorem KeepB.refl (w : World) (A : Nat → Prop) : KeepB w A w := fun _ _ => rfl
theorem KeepB.drew (w : World) (A : Nat → Prop) : KeepB w A w.drew := fun _ _ => rfl
theorem KeepB.cell {w : World} {A : Nat → Prop} {W : World} (h : KeepB w A W) {b o : Nat} {v : Value} (hb : A b) (hc : w.cell? ⟨b, o, none⟩ = some v) : W.cell? ⟨b, o, none⟩ = some v :=
  (World.cell?_of_block (w := w) (a := ⟨b, o, none⟩) (h b hb)).trans hc
theorem KeepB.below {w : World} {A : Nat → Prop} {W W' : World} {N : Nat} (h : KeepB w A W) (hb : Below N W W') (hA : ∀ b, A b → b < N) : KeepB w A W' := fun b hb' => (hb.block b (hA b hb')).trans (h b hb')
theorem KeepB.alloc {w : World} {A : Nat → Prop} {W : World} (h : KeepB w A W) (hA : ∀ b, A b → b < W.heap.size) (o : Obj) : KeepB w A (W.alloc o) := fun b hb => (Below.heap_alloc W o b (hA b hb)).trans (h b hb)
theorem KeepB.grown {w : World} {A : Nat → Prop} {W W' : World} {row : Option Nat} (h : KeepB w A W) (g : W.grownBy W' row) (hA : ∀ b, A b → b < W.heap.size ∧ some b ≠ row) : KeepB w A W' := fun b hb => (g.block b (hA b hb).1 (hA b hb).2).trans (h b hb)
theorem KeepB.set {w : World} {A : Nat → Prop} {W : World} (h : KeepB w A W) {M : Nat} (hM : ∀ b, A b → b ≠ M) (i : Nat) (u : Value) : KeepB w A (W.setCell ⟨M, i, none⟩ u) := fun b hb => by
  rw [set_other (hM b hb)]; exact h b hb
theorem grown_far {a b c : World} {gv : Nat} {row : Option Nat} (h : a.grownBy b (some gv)) (k : b.grownBy c row) (hr : ∀ r, row = some r → a.heap.size ≤ r ∨ r = gv) : a.grownBy c (some gv) :=
  ⟨k.os.trans h.os, k.tape.trans h.tape, k.output.trans h.output, Nat.le_trans h.size k.size, fun x hx hn => (k.block x (Nat.lt_of_lt_of_le hx h.size) (fun e => by
    rcases hr x e.symm with h | h
    · omega
    · exact hn (by rw [h]))).trans (h.block x hx hn)⟩
/-- two more -/
theorem OwnR.push2 {α : Type} {E : α → World → (Nat → Prop) → List Value → Prop} {ty sz : Nat} (K : KeepE E) {w w' : World} {base : Nat} {S Sx : Nat → Prop} {v v' : Value} {l : List α} {x y : α} {cx cy xs : List Value}
    (h3 : ∀ b, S b → base ≤ b ∧ b < w.heap.size ∧ some b ≠ v.ownBlock) (h1 : w.ownsRow base ty sz v l.length xs) (h2 : ∀ (j : Nat) (h : j < l.length), E l[j] w S ((xs.drop (j * sz)).take sz))
    (hE : E x w Sx cx) (hF : E y w Sx cy) (hSx : ∀ b, Sx b → base ≤ b ∧ b < w.heap.size ∧ some b ≠ v.ownBlock) (hcx : cx.length = sz) (hcy : cy.length = sz)
    (ho : w'.ownsRow base ty sz v' (l.length + 2) (xs ++ (cx ++ cy))) (hg : w.grownBy w' v.ownBlock) (hn : v.ownBlock = v'.ownBlock ∨ ∀ g, v'.ownBlock = some g → w.heap.size ≤ g) :
    OwnR E ty sz w' base (fun b => S b ∨ Sx b) v' (l ++ [x, y]) := by
  have hall : ∀ b, S b ∨ Sx b → base ≤ b ∧ b < w.heap.size ∧ some b ≠ v.ownBlock := fun b hb => hb.elim (h3 b) (hSx b)
  have hb : ∀ b, S b ∨ Sx b → w'.heap[b]? = w.heap[b]? := fun b hb => hg.block b (hall b hb).2.1 (hall b hb).2.2
  refine ⟨⟨xs ++ (cx ++ cy), by simpa using ho, fun j hj => ?_⟩, fun b hS => ⟨(hall b hS).1, Nat.lt_of_lt_of_le (hall b hS).2.1 hg.size, ?_⟩⟩
  · by_cases hjl : j < l.length
    · rw [List.getElem_append_left hjl, chunk_left h1.1 hjl]
      exact K _ _ _ _ _ _ (fun b h => hb b (.inl h)) (fun _ h => .inl h) (h2 j hjl)
    · by_cases hj1 : j = l.length
      · subst hj1
        have e : ((xs ++ (cx ++ cy)).drop (l.length * sz)).take sz = cx := by
          rw [← h1.1, List.drop_left, ← hcx, List.take_left]
        rw [e, List.getElem_append_right (by omega)]
        simpa using K _ _ _ _ _ _ (fun b h => hb b (.inr h)) (fun _ h => .inr h) hE
      · obtain rfl : j = l.length + 1 := by simp at hj; omega
        have e : ((xs ++ (cx ++ cy)).drop ((l.length + 1) * sz)).take sz = cy := by
          rw [Nat.succ_mul, ← List.drop_drop, ← h1.1, List.drop_left, ← hcx, List.drop_left, hcx, ← hcy, List.take_length]
        rw [e, List.getElem_append_right (by omega)]
        simpa using K _ _ _ _ _ _ (fun b h => hb b (.inr h)) (fun _ h => .inr h) hF
  · rcases hn with e | e
    · rw [← e]; exact (hall b hS).2.2
    · intro h
      have := e b h.symm
      have := (hall b hS).2.1
      omega
theorem step_push2 {α : Type} {E : α → World → (Nat → Prop) → List Value → Prop} {ty sz : Nat} {P : Program} (K : KeepE E) {ops : Array Oper} {o : Oper} {a : Act} {w : World} {K' : Act → World → Prop} {Q : Exit → Act → World → Prop} {D : Prop} (hgd : o.guard = none) (s x : Operand) (t : TypeId)
    (ho : o.op = .call { callee := .builtin .append, args := #[s, x], argTypes := #[t, t] })
    (base : Nat) (i : TypeInfo) (z : Value) (bytes : Nat) (ht : P.underlying t = some (.slice ty)) (hi : P.info? ty = some i) (hz : i.zero = some z)
    (hsize : i.size = sz) (hby : i.bytes = bytes) (hzs : z.cells.size = sz) (hsz : 0 < sz) (hb200 : bytes ≤ 200)
    {S Sx : Nat → Prop} (v : Value) {l : List α} (y y2 : α) {cx cy : List Value} (hs : a.eval s = v) (hown : OwnR E ty sz w base S v l)
    (tb c : Nat) (fz : Nat × Nat) (hx : a.eval x = .slice (some ⟨tb, 0, none⟩) 2 c) (htb : w.heap[tb]? = some (.cells (cx ++ cy).toArray ty fz)) (hcx : cx.length = sz) (hcy : cy.length = sz) (h1c : ∀ u ∈ cx ++ cy, u.oneCell' = true) (hE : E y w Sx cx) (hF : E y2 w Sx cy) (hSx : ∀ b, Sx b → base ≤ b ∧ b < w.heap.size ∧ some b ≠ v.ownBlock)
    (hlen : l.length ≤ 4294967290) (hbase : base ≤ w.heap.size)
    (h : ∀ g cap w', OwnR E ty sz w' base (fun b => S b ∨ Sx b) (.slice (some ⟨g, 0, none⟩) (l.length + 2) cap) (l ++ [y, y2]) → w.grownBy w' v.ownBlock → (v.ownBlock = some g ∨ w.heap.size ≤ g) → K' (a.put o.dst (.slice (some ⟨g, 0, none⟩) (l.length + 2) cap)) w') :
    if Region.wanted o (yielded ops a.tmps) = true then Oper.wp P o a w K' Q else D := by
  have hw : Region.wanted o (yielded ops a.tmps) = true := by simp [Region.wanted, hgd]
  rw [if_pos hw]
  obtain ⟨⟨xs, h1, h2⟩, h3⟩ := hown
  have hbb : (l.length + 2) * bytes ≤ 140737488355328 := by
    have := Nat.mul_le_mul (show l.length + 2 ≤ 4294967297 by omega) hb200
    omega
  obtain ⟨g, cap, w', hrun, r1, r2, r3⟩ := run_append_new (P := P) w base t o.type ty i z sz bytes ht hi hz hsize hby hzs hsz v l.length xs h1 ⟨tb, 0, none⟩ 2 c (cx ++ cy) (by rw [List.length_append]; omega) (cells_of_block htb) h1c (by simp only [maxLen]; omega) hbb hbase (by omega)
  unfold Oper.wp
  simp [execOp, ho, resolve, invoke, builtin, hs, hx, hrun, Result.andThen]
  refine h g cap w' (OwnR.push2 K h3 h1 h2 hE hF hSx hcx hcy r1 r2 ?_) r2 r3
  rcases r3 with e | e
  · exact .inl (by rw [e]; rfl)
  · exact .inr (fun g' hg' => by simp [Value.ownBlock] at hg'; omega)
/-- a map that is put together in a box -/
structure Wst (W0 : World) (gv : Nat) (S SM : Nat → Prop) (ms : List Mem) (smv : Value) (W : World) : Prop where
  gr : W0.grownBy W (some gv)
  bx : W.heap[gv]? = some (.cells #[.int .i64 5, .bool false, .int .i64 0, .string ⟨#[]⟩, .slice none 0 0, smv] 25 (0, 0))
  ow : OwnM false W 0 SM smv (ms.map some)
  fl : ∀ r, smv.ownBlock = some r → W0.heap.size ≤ r
  sm : ∀ b, SM b → S b ∨ W0.heap.size ≤ b
theorem Wst.below {W0 W W' : World} {gv : Nat} {S SM : Nat → Prop} {ms : List Mem} {smv : Value} (h : Wst W0 gv S SM ms smv W) (hg : gv < W0.heap.size) (hb : Below W.heap.size W W') : Wst W0 gv S SM ms smv W' :=
  ⟨grown_far h.gr (grown_of_below hb) (fun r e => by cases e), (hb.block gv (Nat.lt_of_lt_of_le hg h.gr.size)).trans h.bx, h.ow.below (keepM false) hb, h.fl, h.sm⟩
/-- the members that were appended are stored -/
theorem Wst.store {W0 W w5 : World} {gv g n cap : Nat} {S SM SX : Nat → Prop} {ms ms' : List Mem} {smv : Value} (h : Wst W0 gv S SM ms smv W) (hg : gv < W0.heap.size) (hS : ∀ b, S b → b < W0.heap.size ∧ b ≠ gv)
    (o5 : OwnM false w5 0 (fun b => SM b ∨ SX b) (.slice (some ⟨g, 0, none⟩) n cap) (ms'.map some)) (g5 : W.grownBy w5 smv.ownBlock) (e5 : smv.ownBlock = some g ∨ W.heap.size ≤ g) (hSX : ∀ b, SX b → S b ∨ W0.heap.size ≤ b) :
    Wst W0 gv S (fun b => SM b ∨ SX b) ms' (.slice (some ⟨g, 0, none⟩) n cap) (w5.setCell ⟨gv, 5, none⟩ (.slice (some ⟨g, 0, none⟩) n cap)) := by
  have hsm : ∀ b, SM b ∨ SX b → S b ∨ W0.heap.size ≤ b := fun b hb => hb.elim (h.sm b) (hSX b)
  have hge : W0.heap.size ≤ g := e5.elim (fun e => h.fl g e) (fun e => Nat.le_trans h.gr.size e)
  have b5 : w5.heap[gv]? = some (.cells #[.int .i64 5, .bool false, .int .i64 0, .string ⟨#[]⟩, .slice none 0 0, smv] 25 (0, 0)) := (g5.block gv (Nat.lt_of_lt_of_le hg h.gr.size) (fun e => by have := h.fl gv e.symm; omega)).trans h.bx
  refine ⟨grown_set (grown_far h.gr g5 (fun r e => .inl (h.fl r e))) 5 _, ?_, o5.set0 (keepM false) (fun hb => ?_) (fun e => by simp [Value.ownBlock] at e; omega) 5 _, fun r e => by simp [Value.ownBlock] at e; omega, hsm⟩
  · rw [set_block b5]; rfl
  · rcases hsm gv hb with q | q
    · exact (hS gv q).2 rfl
    · omega
theorem str_lies (s : ByteArray) (hs : s.size ≤ maxLen) (W : World) (S : Nat → Prop) : (strV s).lies false W S [.int .i64 3, .bool false, .int .i64 0, .string s, .slice none 0 0, .slice none 0 0] :=
  lies_S (by simp [In64]) (by simp [In64]) hs ⟨Nat.le_refl _, by simp [maxLen], .inl rfl, fun _ => rfl⟩ ⟨Nat.le_refl _, by simp [maxLen], .inl rfl, fun _ => rfl⟩ (b := false) (bl := 0) (ol := 0) (bm := 0) (om := 0) (by rw [liesL]; trivial) (by rw [liesM]; trivial)
def StrP (s : ByteArray) (w : World) (e : Ending) (w' : World) : Prop := e = .returned (.agg #[.int .i64 3, .bool false, .int .i64 0, .string s, .slice none 0 0, .slice none 0 0]) ∧ Below w.heap.size w w'
set_option maxHeartbeats 2000000 in
theorem str_any (s : ByteArray) (w : World) : Calls Tryz.prog 49 #[.string s] w (StrP s w) := by
  have B0 : Below w.heap.size w (w.alloc (.cells #[.int .i64 3, .bool false, .int .i64 0, .string s, .slice none 0 0, .slice none 0 0] 25)) := (Below.refl _ _).alloc (Nat.le_refl _) _
  go_enter Tryz.func49, Tryz.ntmps49
  go_wp2_with fail
  (try simp only [Exit.inBlock, Exit.then])
  refine bodyPost_ret (v := .agg #[.int .i64 3, .bool false, .int .i64 0, .string s, .slice none 0 0, .slice none 0 0]) (by rw [results_cell1 rfl]; go_simp) rfl ?_
  exact ⟨rfl, B0⟩
end Go.Proofs.YtjgbjhahmgegiaaGreatDoor
