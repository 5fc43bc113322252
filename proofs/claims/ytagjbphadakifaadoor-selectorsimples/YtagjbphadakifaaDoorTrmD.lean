import Derived.Test.YtagjbphadakifaaDoorTrmC
import Derived.Laws.AppendOwnNone
import Derived.Deep.RegionHeld
/- roomy. -/
set_option linter.unusedSimpArgs false
set_option linter.unusedVariables false
namespace Go.Proofs.YtagjbphadakifaaDoor
open Go.RowKit Go.Lib
def ES (s : ByteArray) (w : World) (S : Nat → Prop) (cs : List Value) : Prop := cs = [.string s]
theorem keepS : KeepE ES := fun x w w' S S' cs _ _ h => h
abbrev OwnSt := OwnR ES 9 1
def ET (x : Option Trm) (w : World) (S : Nat → Prop) (cs : List Value) : Prop := match x with
  | some t => Trm.lies true w S t cs
  | none => cs = [.string ⟨#[]⟩, .int .i64 (-9), .slice none 0 0]
theorem keepT : KeepE ET := by
  intro x w w' S S' cs hw hS h
  cases x with
  | none => exact h
  | some t => exact Trm.lies_keep (fun h => h) h hw hS
abbrev OwnTr := OwnR ET 50 3
theorem info9 : (Tryd.prog.info? 9).map (fun i => (i.zero, i.size, i.bytes)) = some (some (.string ⟨#[]⟩), 1, 16) := by kernel_rfl
theorem info50 : (Tryd.prog.info? 50).map (fun i => (i.zero, i.size, i.bytes)) = some (some (.agg #[.string ⟨#[]⟩, .int .i64 0, .slice none 0 0]), 3, 48) := by kernel_rfl
theorem own_strs {w : World} {base : Nat} {v : Value} {l : List ByteArray} (h : w.ownsRow base 9 1 v l.length (l.map Value.string)) : OwnSt w base (fun _ => False) v l := by
  refine ⟨⟨_, h, fun j hj => ?_⟩, fun b hb => hb.elim⟩
  show ((l.map Value.string).drop (j * 1)).take 1 = _
  rw [Nat.mul_one, List.drop_eq_getElem_cons (by simpa using hj)]
  simp
/-- append(nil, texts...) -/
theorem run_nilcat {W : World} {S : Nat → Prop} {l : List ByteArray} {a : Option Addr} {c b o : Nat} (ty : TypeId) (h : Headed a l.length c b o) (hl : liesS W S l b o) (hlen : l.length ≤ 4294967296) :
    ∃ v' w', (Builtin.append_ #[48, 48] ty #[.slice none 0 0, .slice a l.length c]).run Tryd.prog W = .ok v' w' ∧ OwnSt w' W.heap.size (fun _ => False) v' l ∧ W.grownBy w' none := by
  obtain ⟨i, hi, hz⟩ := Option.map_eq_some_iff.1 info9
  simp only [Prod.mk.injEq] at hz
  obtain ⟨z1, z2, z3⟩ := hz
  have hn : W.ownsRow W.heap.size 9 1 (.slice none 0 0) 0 [] := World.ownsRow_nil _ _ _ _
  cases a with
  | none =>
    have hc := h.nil rfl
    have h0 : l = [] := List.length_eq_zero_iff.1 (by have := h.le; omega)
    subst h0 hc
    exact ⟨_, W, run_append_owned_none (P := Tryd.prog) (w := W) W.heap.size 48 ty 9 i 1 Tryd.underlying48 hi _ 0 [] hn, own_strs (by simpa using hn), World.grownBy.refl _ _⟩
  | some ad =>
    have hnews : ∀ j u, (l.map Value.string)[j]? = some u → W.cell? (ad.add j) = some u := fun j u hu => by
      have hj : j < l.length := by have := (List.getElem?_eq_some_iff.1 hu).1; simpa using this
      obtain ⟨_, _, hc⟩ := hl j hj
      have e := h.at_.resolve_left (by omega)
      obtain rfl := Option.some.inj e
      rw [Go.WideShapes.add_plain, hc]
      rw [List.getElem?_map, List.getElem?_eq_getElem hj] at hu
      simpa using hu
    obtain ⟨v', w', hrun, r1, r2, _⟩ := run_append_own (P := Tryd.prog) W W.heap.size 48 ty 9 i _ 1 16 Tryd.underlying48 hi z1 z2 z3 rfl (by decide) (.slice none 0 0) 0 [] hn ad l.length c (l.map Value.string) (by simp) hnews (fun u hu => by
      obtain ⟨s, _, rfl⟩ := List.mem_map.1 hu
      rfl) (by unfold maxLen; omega) (by omega) (Nat.le_refl _)
    exact ⟨v', w', hrun, own_strs (by simpa using r1), r2⟩
def New (w w' : World) (x : Nat) : Prop := w.heap.size ≤ x ∧ x < w'.heap.size
def RmPost (l : List Trm) (w : World) (e : Ending) (w' : World) : Prop := ∃ g cap, e = .returned (.slice (some ⟨g, 0, none⟩) l.length cap) ∧ l.length + 70 ≤ cap ∧ cap ≤ maxLen ∧ w.heap.size ≤ g ∧ g < w'.heap.size ∧ liesT true w' (New w w') l g 0 ∧ (∀ k, k < 70 → w'.cell? ⟨g, (l.length + k) * 3 + 1, none⟩ = some (.int .i64 (-9))) ∧ Below w.heap.size w w'
theorem step_app {P : Program} {ops : Array Oper} {o : Oper} {a : Act} {w w' : World} {K' : Act → World → Prop} {Q : Exit → Act → World → Prop} {D : Prop} (hgd : o.guard = none) (s x : Operand) (t : TypeId)
    (ho : o.op = .call { callee := .builtin .append, args := #[s, x], argTypes := #[t, t] }) (v xv v' : Value) (hs : a.eval s = v) (hx : a.eval x = xv) (hrun : (Builtin.append_ #[t, t] o.type #[v, xv]).run P w = .ok v' w')
    (h : K' (a.put o.dst v') w') : if Region.wanted o (yielded ops a.tmps) = true then Oper.wp P o a w K' Q else D := by
  have hw : Region.wanted o (yielded ops a.tmps) = true := by simp [Region.wanted, hgd]
  rw [if_pos hw]
  unfold Oper.wp
  simp [execOp, ho, resolve, invoke, builtin, hs, hx, hrun, Result.andThen]
  exact h
theorem own_slice {α : Type} {E : α → World → (Nat → Prop) → List Value → Prop} {ty sz : Nat} {w : World} {base : Nat} {S : Nat → Prop} {v : Value} {l : List α} (h : OwnR E ty sz w base S v l) : ∃ a c, v = .slice a l.length c := by
  obtain ⟨⟨xs, h1, _⟩, _⟩ := h
  rcases h1.2 with ⟨e, e2⟩ | ⟨g, cap, cur, e, _⟩
  · exact ⟨none, 0, by rw [e, e2]⟩
  · exact ⟨_, _, e⟩
theorem lt_blk {W : World} {y : Nat} {o : Obj} (e : W.heap[y]? = some o) : y < W.heap.size := (Array.getElem?_eq_some_iff.1 e).1
theorem own_off {α : Type} {E : α → World → (Nat → Prop) → List Value → Prop} {ty sz : Nat} {w : World} {base : Nat} {S : Nat → Prop} {v : Value} {l : List α} (h : OwnR E ty sz w base S v l) : (∀ b, S b → b < w.heap.size) ∧ ∀ r, v.ownBlock = some r → r < w.heap.size := ⟨fun b hb => (h.off b hb).2.1, fun r hr => (h.lt hr).2⟩
theorem own_some {α : Type} {E : α → World → (Nat → Prop) → List Value → Prop} {ty sz : Nat} {w : World} {base : Nat} {S : Nat → Prop} {v : Value} {l : List α} (h : OwnR E ty sz w base S v l) (h0 : 0 < l.length) : ∃ g cap, v = .slice (some ⟨g, 0, none⟩) l.length cap ∧ l.length ≤ cap ∧ cap ≤ maxLen ∧ base ≤ g ∧ g < w.heap.size := by
  obtain ⟨a, c, rfl⟩ := own_slice h
  have h' := h
  obtain ⟨⟨xs, h1, _⟩, _⟩ := h'
  rcases h1.2 with ⟨e, e2⟩ | ⟨g, cap, cur, e, _⟩
  · omega
  · simp only [Value.slice.injEq] at e
    obtain ⟨rfl, _, rfl⟩ := e
    have h2 := h.le
    have h3 := h.lt (g := g) rfl
    exact ⟨g, c, rfl, h2.1, h2.2, h3.1, h3.2⟩
theorem own_str {w : World} {base g n cap : Nat} {S : Nat → Prop} {l : List ByteArray} (h : OwnSt w base S (.slice (some ⟨g, 0, none⟩) n cap) l) (hn : n = l.length) (j : Nat) (hj : j < l.length) : w.cell? ⟨g, 0 + j, none⟩ = some (.string l[j]) := by
  obtain ⟨cs, h1, h2⟩ := h.at hn j hj
  have h3 : cs = [.string l[j]] := h2
  subst h3
  have := h1 0 _ rfl
  simpa using this
theorem term_of {w : World} {base g cap : Nat} {S : Nat → Prop} {key : ByteArray} {op : Int} {vs : List ByteArray} (h : OwnSt w base S (.slice (some ⟨g, 0, none⟩) (vs.length + 70) cap) (vs ++ List.replicate 70 roomS)) (hc : vs.length + 70 ≤ cap) (hc2 : cap ≤ maxLen) (hop : In64 op) (hk : key.size ≤ 140737488355328) (hv : ∀ j (h : j < vs.length), (vs[j]).size ≤ 140737488355328) :
    Trm.lies true w (fun b => b = g) (key, op, vs) [.string key, .int .i64 op, .slice (some ⟨g, 0, none⟩) vs.length cap] := by
  have hl : (vs ++ List.replicate 70 roomS).length = vs.length + 70 := by simp
  refine ⟨some ⟨g, 0, none⟩, cap, g, 0, rfl, hop, hk, ⟨(by show vs.length ≤ cap; omega), hc2, .inr rfl, fun h => by cases h⟩, fun j hj => ⟨rfl, hv j hj, ?_⟩, fun _ => ⟨rfl, hc, rfl, fun k hk => ?_⟩⟩
  · have hj : j < vs.length := hj
    have := own_str h hl.symm j (by omega)
    rw [List.getElem_append_left hj] at this
    exact this
  · have := own_str h hl.symm (vs.length + k) (by omega)
    rw [List.getElem_append_right (by omega), List.getElem_replicate] at this
    exact this
theorem es_mk (s : ByteArray) (w : World) (S : Nat → Prop) : ES s w S [.string s] := by show _ = _; rfl
theorem oneS {s : ByteArray} : ∀ u ∈ [Value.string s], u.oneCell' = true := fun u hu => by
  obtain rfl := List.mem_singleton.1 hu
  rfl
theorem one3 {s : ByteArray} {i : Int} {a : Option Addr} {n c : Nat} : ∀ u ∈ [Value.string s, .int .i64 i, .slice a n c], u.oneCell' = true := fun u hu => by
  simp only [List.mem_cons, List.mem_nil_iff, or_false] at hu
  rcases hu with rfl | rfl | rfl <;> rfl
theorem set_other7 {w : World} {g o x : Nat} {u : Value} (h : x ≠ g) : (w.setCell ⟨g, o, none⟩ u).heap[x]? = w.heap[x]? := by
  by_cases hx : x < w.heap.size
  · exact (grown_set1 w g o u).block x hx (fun e => h (Option.some.inj e))
  · have hz : (w.setCell ⟨g, o, none⟩ u).heap.size = w.heap.size := by simp [World.setCell]
    rw [Array.getElem?_eq_none (by omega), Array.getElem?_eq_none (by omega)]
theorem row3b {w : World} {b : Nat} {c0 c1 c2 : Value} {t : TypeId} {fz : Nat × Nat} (h : w.heap[b]? = some (.cells #[c0, c1, c2] t fz)) : rowAt w b 0 [c0, c1, c2] := fun j u hu => by
  rw [Nat.zero_add, cell_of_block h]
  simpa using hu
theorem et_none (w : World) (S : Nat → Prop) : ET none w S [.string ⟨#[]⟩, .int .i64 (-9), .slice none 0 0] := by show _ = _; rfl
theorem rm_of {l : List Trm} {w w' : World} {SM : Nat → Prop} {g n cap : Nat} (h : OwnTr w' w.heap.size SM (.slice (some ⟨g, 0, none⟩) n cap) (l.map some ++ List.replicate 70 none)) (hn : n = l.length + 70) :
    liesT true w' (New w w') l g 0 ∧ ∀ k, k < 70 → w'.cell? ⟨g, (l.length + k) * 3 + 1, none⟩ = some (.int .i64 (-9)) := by
  have hl : (l.map some ++ List.replicate 70 (none : Option Trm)).length = l.length + 70 := by simp
  have hg := h.lt (g := g) rfl
  constructor
  · intro j hj
    refine ⟨hg, ?_⟩
    obtain ⟨cs, h1, h2⟩ := h.at (hn.trans hl.symm) j (by omega)
    refine ⟨cs, h1, ?_⟩
    have e : (l.map some ++ List.replicate 70 (none : Option Trm))[j]'(by omega) = some l[j] := by rw [List.getElem_append_left (by simpa using hj), List.getElem_map]
    rw [e] at h2
    have h3 : Trm.lies true w' SM l[j] cs := h2
    exact Trm.lies_keep (fun h => h) h3 (fun _ _ => rfl) (fun b hb => ⟨(h.off b hb).1, (h.off b hb).2.1⟩)
  · intro k hk
    obtain ⟨cs, h1, h2⟩ := h.at (hn.trans hl.symm) (l.length + k) (by omega)
    have e : (l.map some ++ List.replicate 70 (none : Option Trm))[l.length + k]'(by omega) = none := by rw [List.getElem_append_right (by simp), List.getElem_replicate]
    rw [e] at h2
    have h3 : cs = [.string ⟨#[]⟩, .int .i64 (-9), .slice none 0 0] := h2
    subst h3
    have := h1 1 _ rfl
    simpa using this
set_option maxHeartbeats 8000000 in
set_option maxRecDepth 100000 in
theorem roomyT_any (l : List Trm) (S : Nat → Prop) (al : Option Addr) (cl bl ol : Nat) (w : World) (hh : Headed al l.length cl bl ol) (hl : liesT false w S l bl ol) (hS : ∀ b, S b → b < w.heap.size) (hwt : wtT l ≤ 2147483647) :
    Calls Tryd.prog 12 #[.slice al l.length cl] w (RmPost l w) := by
  have HL := hmk hl
  have HH := hmk hh
  have hm : l.length ≤ 2147483647 := Nat.le_trans (wtT_len l) hwt
  obtain ⟨i9, hi9, hz9⟩ := Option.map_eq_some_iff.1 info9
  simp only [Prod.mk.injEq] at hz9
  have hI := hmk (And.intro hi9 hz9)
  obtain ⟨i5, hi5, hz5⟩ := Option.map_eq_some_iff.1 info50
  simp only [Prod.mk.injEq] at hz5
  have hJ := hmk (And.intro hi5 hz5)
  clear hh hl hi9 hz9 hi5 hz5
  go_enter Tryd.func12, Tryd.ntmps12
  go_wp2_with fail
  go_loopw [3, 4] (fun e3 e4 wr => ∃ (j : Nat) (SM : Nat → Prop), j ≤ l.length ∧ e4 = .int .i64 (j : Int) ∧ Below w.heap.size w wr ∧ Hid (OwnTr wr w.heap.size SM e3 ((l.take j).map some))) (fun e3 e4 _ => l.length - (RowKit.intOf e4).toNat)
  case atStart => exact ⟨0, fun _ => False, by omega, rfl, Below.refl _ _, (by show OwnTr _ _ _ _ _; simpa using OwnR.nil _ _)⟩
  case round =>
    obtain ⟨j, SM, hj, rfl, Bj, HO⟩ := hrel
    have hzr := Bj.size
    by_cases hjl : j < l.length
    · have y1 : (j : Int) < l.length := by omega
      obtain ⟨hSb, cs, hrow, ht⟩ := HL.out j hjl
      obtain ⟨a, c, tb, to', rfl, hop, hks, htd, hts, _⟩ := ht
      obtain rfl : al = some ⟨bl, ol, none⟩ := HH.out.at_.resolve_left (by omega)
      obtain ⟨q, q0, q1⟩ := row3 (hrow.keep (Bj.block _ (hS _ hSb)))
      have hbl := hS _ hSb
      have hwj := wtT_mem (List.getElem_mem hjl)
      have HT : Hid ((l.map some).take (j + 1) = (l.map some).take j ++ [some l[j]]) := by show _ = _; rw [List.take_succ_eq_append_getElem (by simpa using hjl), List.getElem_map]
      obtain ⟨⟨key, op, vs⟩, hx⟩ : ∃ x, l[j] = x := ⟨_, rfl⟩
      rw [hx] at hts hks htd hop q q0 q1 HT hwj
      simp only at hts hks htd hop q q0 q1 hwj
      have hvl := wtS_len vs
      have HTS := hmk (fun (W : World) (hW : Below w.heap.size w W) => hts.keep (fun b hb => hW.block b (hS b hb)) (fun _ h => h))
      have HTD := hmk htd
      have HKS := hmk hks
      have HOP := hmk hop
      clear hrow hop hts htd hx hks
      go_wp2_with fail
      refine wp_region_held_drew (S := fun Y => Y.cell? ⟨bl, ol + j * 3, none⟩ = some (.string key) ∧ Y.cell? ⟨bl, ol + j * 3 + 1, none⟩ = some (.int .i64 op)) (by kernel_rfl) ⟨q, q0⟩ (fun hHeld => ?_)
      (refine wpAnyH_take (i := 0) (v := ?_) rfl (by kernel_rfl) (by kernel_rfl) (by kernel_rfl) (fun _ _ _ h => h) (Or.inl ⟨by kernel_rfl, ?_⟩) (by assumption) ?_; rotate_left 1; (intro W0 hSw; (obtain ⟨hA, hB⟩ := hSw); go_simp; (try with_reducible rfl)); (try simp only [Act.put, List.setIfInBounds_toArray, List.set_cons_zero, List.set_cons_succ]))
      (refine wpAnyH_take (i := 1) (v := ?_) rfl (by kernel_rfl) (by kernel_rfl) (by kernel_rfl) (fun _ _ _ h => h) (Or.inl ⟨by kernel_rfl, ?_⟩) (by assumption) ?_; rotate_left 1; (intro W0 hSw; (obtain ⟨hA, hB⟩ := hSw); go_simp; (try with_reducible rfl)); (try simp only [Act.put, List.setIfInBounds_toArray, List.set_cons_zero, List.set_cons_succ]))
      (refine wpAnyH_take (i := 2) (v := ?_) rfl (by kernel_rfl) (by kernel_rfl) (by kernel_rfl) (fun _ _ _ h => h) (Or.inl ⟨by kernel_rfl, ?_⟩) (by assumption) ?_; rotate_left 1; (intro W0 hSw; (obtain ⟨hA, hB⟩ := hSw); go_simp; (try with_reducible rfl)); (try simp only [Act.put, List.setIfInBounds_toArray, List.set_cons_zero, List.set_cons_succ]))
      (refine wpAnyH_take (i := 3) (v := ?_) rfl (by kernel_rfl) (by kernel_rfl) (by kernel_rfl) (fun _ _ _ h => h) (Or.inl ⟨by kernel_rfl, ?_⟩) (by assumption) ?_; rotate_left 1; (intro W0 hSw; (obtain ⟨hA, hB⟩ := hSw); go_simp; (try with_reducible rfl)); (try simp only [Act.put, List.setIfInBounds_toArray, List.set_cons_zero, List.set_cons_succ]))
      (refine wpAnyH_take (i := 4) (v := ?_) rfl (by kernel_rfl) (by kernel_rfl) (by kernel_rfl) (fun _ _ _ h => h) (Or.inl ⟨by kernel_rfl, ?_⟩) (by assumption) ?_; rotate_left 1; (intro W0 hSw; (obtain ⟨hA, hB⟩ := hSw); go_simp; (try with_reducible rfl)); (try simp only [Act.put, List.setIfInBounds_toArray, List.set_cons_zero, List.set_cons_succ]))
      (refine wpAnyH_take (i := 5) (v := ?_) rfl (by kernel_rfl) (by kernel_rfl) (by kernel_rfl) (fun _ _ _ h => h) (Or.inl ⟨by kernel_rfl, ?_⟩) (by assumption) ?_; rotate_left 1; (intro W0 hSw; (obtain ⟨hA, hB⟩ := hSw); go_simp; (try with_reducible rfl)); (try simp only [Act.put, List.setIfInBounds_toArray, List.set_cons_zero, List.set_cons_succ]))
      (refine wpAnyH_take (i := 6) (v := ?_) rfl (by kernel_rfl) (by kernel_rfl) (by kernel_rfl) (fun _ _ _ h => h) (Or.inl ⟨by kernel_rfl, ?_⟩) (by assumption) ?_; rotate_left 1; (intro W0 hSw; (obtain ⟨hA, hB⟩ := hSw); go_simp; (try with_reducible rfl)); (try simp only [Act.put, List.setIfInBounds_toArray, List.set_cons_zero, List.set_cons_succ]))
      (refine wpAnyH_take (i := 7) (v := ?_) rfl (by kernel_rfl) (by kernel_rfl) (by kernel_rfl) (fun _ _ _ h => h) (Or.inl ⟨by kernel_rfl, ?_⟩) (by assumption) ?_; rotate_left 1; (intro W0 hSw; (obtain ⟨hA, hB⟩ := hSw); go_simp; (try with_reducible rfl)); (try simp only [Act.put, List.setIfInBounds_toArray, List.set_cons_zero, List.set_cons_succ]))
      (refine wpAnyH_take (i := 8) (v := ?_) rfl (by kernel_rfl) (by kernel_rfl) (by kernel_rfl) (fun _ _ _ h => h) (Or.inl ⟨by kernel_rfl, ?_⟩) (by assumption) ?_; rotate_left 1; (intro W0 hSw; (obtain ⟨hA, hB⟩ := hSw); go_simp; (try with_reducible rfl)); (try simp only [Act.put, List.setIfInBounds_toArray, List.set_cons_zero, List.set_cons_succ]))
      (refine wpAnyH_take (i := 9) (v := ?_) rfl (by kernel_rfl) (by kernel_rfl) (by kernel_rfl) (fun _ _ _ h => h) (Or.inl ⟨by kernel_rfl, ?_⟩) (by assumption) ?_; rotate_left 1; (intro W0 hSw; (obtain ⟨hA, hB⟩ := hSw); go_simp; (try with_reducible rfl)); (try simp only [Act.put, List.setIfInBounds_toArray, List.set_cons_zero, List.set_cons_succ]))
      (refine wpAnyH_take (i := 10) (v := ?_) rfl (by kernel_rfl) (by kernel_rfl) (by kernel_rfl) (fun _ _ _ h => h) (Or.inl ⟨by kernel_rfl, ?_⟩) (by assumption) ?_; rotate_left 1; (intro W0 hSw; (obtain ⟨hA, hB⟩ := hSw); go_simp; (try with_reducible rfl)); (try simp only [Act.put, List.setIfInBounds_toArray, List.set_cons_zero, List.set_cons_succ]))
      refine wpAnyH_ready (rs := [11]) (by kernel_rfl) (by simp) ?_
      refine AllReadyH.cons rfl (fun K hK => ?_) AllReadyH.nil
      go_simp
      have hdw : wr.drew.heap.size = wr.heap.size := rfl
      have a1 : Below wr.heap.size wr (wr.drew.alloc (.cells #[.string ⟨#[]⟩, .int .i64 0, .slice none 0 0] 50)) := ((Below.refl _ _).drew).alloc (by omega) _
      have hXa : (wr.drew.alloc (.cells #[.string ⟨#[]⟩, .int .i64 0, .slice none 0 0] 50)).heap[wr.heap.size]? = some (.cells #[.string ⟨#[]⟩, .int .i64 0, .slice none 0 0] 50) := heap_alloc_new wr.drew _
      have p0 := (a1.cell (p := ⟨bl, ol + j * 3, none⟩) (by show bl < _; omega)).trans q
      have p1 := (a1.cell (p := ⟨bl, ol + j * 3 + 1, none⟩) (by show bl < _; omega)).trans q0
      refine hK.out _ _ ⟨p0, p1⟩ (fun hHeld => ?_)
      clear hK K
      (try simp only [Act.put, List.setIfInBounds_toArray, List.set_cons_zero, List.set_cons_succ])
      have hne : bl ≠ wr.heap.size := by omega
      refine wpAnyH_ready (rs := [12]) (by kernel_rfl) (by simp) ?_
      refine AllReadyH.cons rfl (fun K hK => ?_) AllReadyH.nil
      go_simp
      have a2 : Below wr.heap.size wr (wr.alloc (.cells #[.string key, .int .i64 op, .slice none 0 0] 50)).drew := ((Below.refl _ _).alloc (Nat.le_refl _) _).drew
      have hX2 : (wr.alloc (.cells #[.string key, .int .i64 op, .slice none 0 0] 50)).drew.heap[wr.heap.size]? = some (.cells #[.string key, .int .i64 op, .slice none 0 0] 50) := heap_alloc_new wr _
      have hz2 : (wr.alloc (.cells #[.string key, .int .i64 op, .slice none 0 0] 50)).drew.heap.size = wr.heap.size + 1 := by show (wr.alloc (.cells #[.string key, .int .i64 op, .slice none 0 0] 50)).heap.size = _; simp
      refine hK.out _ _ ⟨(a2.cell (p := ⟨bl, ol + j * 3, none⟩) (by show bl < _; omega)).trans q, (a2.cell (p := ⟨bl, ol + j * 3 + 1, none⟩) (by show bl < _; omega)).trans q0⟩ (fun hHeld => ?_)
      clear hK K
      (try simp only [Act.put, List.setIfInBounds_toArray, List.set_cons_zero, List.set_cons_succ])
      refine wpAnyH_done (by kernel_rfl) ?_ _
      (try dsimp only [Act.put, List.getElem_toArray, List.getElem_cons_succ, List.getElem_cons_zero, List.setIfInBounds_toArray, List.set_cons_zero, List.set_cons_succ])
      have p2 := (a2.cell (p := ⟨bl, ol + j * 3 + 2, none⟩) (by show bl < _; omega)).trans q1
      have HX2 := hmk hX2
      have A2 := hmk a2
      have HOX := own_off HO.out
      have HO2 : Hid (OwnTr (wr.alloc (.cells #[.string key, .int .i64 op, .slice none 0 0] 50)).drew w.heap.size SM u3 ((l.take j).map some)) := HO.out.below keepT a2
      have HQ1 : Hid (w.cell? ⟨bl, ol + j * 3 + 2, none⟩ = some (.slice a vs.length c)) := (Bj.cell (p := ⟨bl, ol + j * 3 + 2, none⟩) hbl).symm.trans q1
      clear hHeld p0 p1 hXa a1 q q0 q1 hX2 a2 HO hdw
      go_wp2_with fail
      generalize (wr.alloc (.cells #[.string key, .int .i64 op, .slice none 0 0] 50)).drew = w2 at *
      have hX2 := HX2.out
      refine wp_region_held_drew (S := fun Y => Y.cell? ⟨bl, ol + j * 3 + 2, none⟩ = some (.slice a vs.length c)) (by kernel_rfl) p2 (fun hHeld => ?_)
      (refine wpAnyH_take (i := 0) (v := ?_) rfl (by kernel_rfl) (by kernel_rfl) (by kernel_rfl) (fun _ _ _ h => h) (Or.inl ⟨by kernel_rfl, ?_⟩) (by assumption) ?_; rotate_left 1; (intro W0 hSw; skip; go_simp; (try with_reducible rfl)); (try simp only [Act.put, List.setIfInBounds_toArray, List.set_cons_zero, List.set_cons_succ]))
      (refine wpAnyH_take (i := 2) (v := ?_) rfl (by kernel_rfl) (by kernel_rfl) (by kernel_rfl) (fun _ _ _ h => h) (Or.inl ⟨by kernel_rfl, ?_⟩) (by assumption) ?_; rotate_left 1; (intro W0 hSw; skip; go_simp; (try with_reducible rfl)); (try simp only [Act.put, List.setIfInBounds_toArray, List.set_cons_zero, List.set_cons_succ]))
      (refine wpAnyH_take (i := 3) (v := ?_) rfl (by kernel_rfl) (by kernel_rfl) (by kernel_rfl) (fun _ _ _ h => h) (Or.inl ⟨by kernel_rfl, ?_⟩) (by assumption) ?_; rotate_left 1; (intro W0 hSw; skip; go_simp; (try with_reducible rfl)); (try simp only [Act.put, List.setIfInBounds_toArray, List.set_cons_zero, List.set_cons_succ]))
      (refine wpAnyH_take (i := 4) (v := ?_) rfl (by kernel_rfl) (by kernel_rfl) (by kernel_rfl) (fun _ _ _ h => h) (Or.inl ⟨by kernel_rfl, ?_⟩) (by assumption) ?_; rotate_left 1; (intro W0 hSw; skip; go_simp; (try with_reducible rfl)); (try simp only [Act.put, List.setIfInBounds_toArray, List.set_cons_zero, List.set_cons_succ]))
      (refine wpAnyH_take (i := 5) (v := ?_) rfl (by kernel_rfl) (by kernel_rfl) (by kernel_rfl) (fun _ _ _ h => h) (Or.inl ⟨by kernel_rfl, ?_⟩) (by assumption) ?_; rotate_left 1; (intro W0 hSw; skip; go_simp; (try with_reducible rfl)); (try simp only [Act.put, List.setIfInBounds_toArray, List.set_cons_zero, List.set_cons_succ]))
      (refine wpAnyH_take (i := 6) (v := ?_) rfl (by kernel_rfl) (by kernel_rfl) (by kernel_rfl) (fun _ _ _ h => h) (Or.inl ⟨by kernel_rfl, ?_⟩) (by assumption) ?_; rotate_left 1; (intro W0 hSw; skip; go_simp; (try with_reducible rfl)); (try simp only [Act.put, List.setIfInBounds_toArray, List.set_cons_zero, List.set_cons_succ]))
      have e2 : w2.drew.cell? ⟨wr.heap.size, 2, none⟩ = some (.slice none 0 0) := by show w2.cell? _ = _; rw [cell_of_block hX2]; rfl
      refine wpAnyH_ready (rs := [1]) (by kernel_rfl) (by simp) ?_
      refine AllReadyH.cons rfl (fun K hK => ?_) AllReadyH.nil
      go_simp
      refine hK.out _ _ p2 (fun hHeld => ?_)
      clear hK K e2
      (try simp only [Act.put, List.setIfInBounds_toArray, List.set_cons_zero, List.set_cons_succ])
      have A2d := hmk (A2.out.trans ((Below.refl w2.heap.size w2).drew.mono (by omega)))
      obtain ⟨v', w3, hrun, r1, r2⟩ := run_nilcat (W := w2.drew) 48 HTD.out (HTS.out _ (Bj.trans (A2d.out.mono (by omega)))) (by omega)
      obtain ⟨sa, sc, rfl⟩ := own_slice r1
      have hsz3 : w2.heap.size ≤ w3.heap.size := r2.size
      have hX3 : w3.heap[wr.heap.size]? = some (.cells #[.string key, .int .i64 op, .slice none 0 0] 50) := (r2.block _ (by show _ < w2.heap.size; omega) (by simp)).trans hX2
      have b3 : Below w2.heap.size w2 w3 := ⟨r2.os, r2.tape, r2.output, r2.size, fun y hy => r2.block y hy (by simp)⟩
      have p3 := (b3.cell (p := ⟨bl, ol + j * 3 + 2, none⟩) (by show bl < _; omega)).trans p2
      have e3 : w3.cell? ⟨wr.heap.size, 2, none⟩ = some (.slice none 0 0) := by rw [cell_of_block hX3]; rfl
      have f3 : w3.frozen? ⟨wr.heap.size, 2, none⟩ = false := frozen_of_block hX3 2
      refine wpAnyH_ready (rs := [7]) (by kernel_rfl) (by simp) ?_
      refine AllReadyH.cons rfl (fun K hK => ?_) AllReadyH.nil
      refine step_app rfl (.tmp 26) (.tmp 31) 48 rfl (.slice none 0 0) (.slice a vs.length c) _ rfl rfl hrun ?_
      refine hK.out _ _ p3 (fun hHeld => ?_)
      clear hK K hrun
      (try simp only [Act.put, List.setIfInBounds_toArray, List.set_cons_zero, List.set_cons_succ])
      have hbne : bl ≠ wr.heap.size := by omega
      have p4 : (w3.setCell ⟨wr.heap.size, 2, none⟩ (.slice sa vs.length sc)).cell? ⟨bl, ol + j * 3 + 2, none⟩ = some (.slice a vs.length c) := (World.cell?_setCell_far w3 ⟨wr.heap.size, 2, none⟩ ⟨bl, ol + j * 3 + 2, none⟩ (.slice sa vs.length sc) (fun e => hbne e.symm)).trans p3
      (refine wpAnyH_take (i := 8) (v := ?_) rfl (by kernel_rfl) (by kernel_rfl) (by kernel_rfl) (fun _ _ _ h => h) (Or.inl ⟨by kernel_rfl, ?_⟩) (by assumption) ?_; rotate_left 1; (intro W0 hSw; skip; go_simp; (try with_reducible rfl)); (try simp only [Act.put, List.setIfInBounds_toArray, List.set_cons_zero, List.set_cons_succ]))
      refine wpAnyH_ready (rs := [9]) (by kernel_rfl) (by simp) ?_
      refine AllReadyH.cons rfl (fun K hK => ?_) AllReadyH.nil
      go_simp
      refine hK.out _ _ p4 (fun hHeld => ?_)
      clear hK K
      (try simp only [Act.put, List.setIfInBounds_toArray, List.set_cons_zero, List.set_cons_succ])
      refine wpAnyH_done (by kernel_rfl) ?_ _
      (try dsimp only [Act.put, List.getElem_toArray, List.getElem_cons_succ, List.getElem_cons_zero, List.setIfInBounds_toArray, List.set_cons_zero, List.set_cons_succ])
      have hX4 := set_block hX3 2 (.slice sa vs.length sc)
      have HOS : Hid (OwnSt (w3.setCell ⟨wr.heap.size, 2, none⟩ (.slice sa vs.length sc)) (wr.heap.size + 1) (fun _ => False) (.slice sa vs.length sc) vs) := by
        have r1' : OwnSt w3 (wr.heap.size + 1) (fun _ => False) (.slice sa vs.length sc) vs := r1.base (by show _ ≤ w2.heap.size; omega)
        exact r1'.set keepS (by omega) _ _
      have HOT : Hid (OwnTr (w3.setCell ⟨wr.heap.size, 2, none⟩ (.slice sa vs.length sc)) w.heap.size SM u3 ((l.take j).map some)) :=
        (HO2.out.below keepT b3).keep keepT (grown_set1 w3 wr.heap.size 2 (.slice sa vs.length sc)) (fun r hr => by
          obtain rfl := Option.some.inj hr
          exact ⟨fun h => by have := HOX.1 _ h; omega, fun h => by have := HOX.2 _ h; omega⟩)
      have B4 : Below wr.heap.size wr (w3.setCell ⟨wr.heap.size, 2, none⟩ (.slice sa vs.length sc)) := (A2.out.trans (b3.mono (by omega))).grown (grown_set1 w3 wr.heap.size 2 (.slice sa vs.length sc)) (by omega) (fun r hr => by have := Option.some.inj hr; omega)
      have HX4 := hmk hX4
      have hz4 : (w3.setCell ⟨wr.heap.size, 2, none⟩ (.slice sa vs.length sc)).heap.size = w3.heap.size := by simp [World.setCell]
      clear hHeld hX4 hX3 hX2 p2 p3 p4 e3 f3 r1 r2 b3 HO2 HX2 A2 A2d
      generalize (w3.setCell ⟨wr.heap.size, 2, none⟩ (.slice sa vs.length sc)) = w4 at *
      have B4w : Below w.heap.size w w4 := Bj.trans (B4.mono (by omega))
      have hz4x : wr.heap.size < w4.heap.size := lt_blk HX4.out
      have HXW := hmk hzr
      generalize wr.heap.size = X at *
      clear B4 hz2 hz4 hsz3 Bj
      go_wp2_with fail
      go_loopw [6] (fun e6 wq => ∃ (k : Nat) (v : Value) (SS : Nat → Prop), k ≤ 70 ∧ e6 = .int .i64 (k : Int) ∧ Below w.heap.size w wq ∧ Hid (wq.heap[X]? = some (.cells #[.string key, .int .i64 op, v] 50)) ∧ Hid (OwnSt wq (X + 1) SS v (vs ++ List.replicate k roomS)) ∧ (∀ b, ¬ SS b) ∧ Hid (OwnTr wq w.heap.size SM u3 ((l.take j).map some))) (fun e6 _ => 70 - (RowKit.intOf e6).toNat)
      case atStart => exact ⟨0, .slice sa vs.length sc, _, by omega, rfl, B4w, HX4, (by show OwnSt _ _ _ _ _; simpa using HOS.out), fun _ h => h, HOT⟩
      case round =>
        clear HOS HX4 HOT B4w hz4x
        obtain ⟨k, v, SS, hk, rfl, Bk, HXk, HSk, hSS, HTk⟩ := hrel
        have hXl := lt_blk HXk.out
        by_cases hk7 : (k : Int) < 70
        · have c2 : wr.cell? ⟨X, 2, none⟩ = some v := by rw [cell_of_block HXk.out]; rfl
          have hT := heap_alloc_new wr (.cells #[.string roomS] 9)
          have hzT : (wr.alloc (.cells #[.string roomS] 9)).heap.size = wr.heap.size + 1 := by simp
          have hlen : (vs ++ List.replicate k roomS).length = vs.length + k := by simp
          have HAL : Hid (OwnSt (wr.alloc (.cells #[.string roomS] 9)) (X + 1) SS v (vs ++ List.replicate k roomS)) := HSk.out.alloc keepS _
          have hlen2 : (vs ++ List.replicate k roomS).length ≤ 4294967296 := by rw [hlen]; omega
          have HBS : Hid (X + 1 ≤ (wr.alloc (.cells #[.string roomS] 9)).heap.size) := by show _ ≤ _; omega
          go_wp2_with (at_builtin; go_loud (refine wpl_push keepS _ rfl (.tmp 39) (.tmp 40) 48 rfl (X + 1) i9 _ 16 Tryd.underlying48 hI.out.1 hI.out.2.1 hI.out.2.2.1 hI.out.2.2.2 rfl (by decide) (by decide) (Sx := fun _ => False) _ roomS rfl HAL.out wr.heap.size 1 (0, 0) rfl hT rfl oneS (es_mk _ _ _) (fun b hb => hb.elim) hlen2 HBS.out ?_))
          intro g cap w5 o5 g5 e5
          have hzT2 : (wr.alloc (.cells #[.string ⟨#[114, 111, 111, 109]⟩] 9)).heap.size = wr.heap.size + 1 := by simp
          have hkz := Bk.size
          have hz5 := g5.size
          have hXw : w.heap.size ≤ X := HXW.out
          have hob : ∀ r, v.ownBlock = some r → X < r := fun r hr => by have := (HSk.out.lt hr).1; omega
          have hX5 : w5.heap[X]? = some (.cells #[.string key, .int .i64 op, v] 50) := (g5.block X (by omega) (fun e => by have := hob X e.symm; omega)).trans ((((Below.refl wr.heap.size wr).alloc (Nat.le_refl _) _).block X hXl).trans HXk.out)
          have f5 : w5.frozen? ⟨X, 2, none⟩ = false := frozen_of_block hX5 2
          have c5 : w5.cell? ⟨X, 2, none⟩ = some v := by rw [cell_of_block hX5]; rfl
          have B5 : Below w.heap.size w w5 := (Bk.alloc (by omega) _).grown g5 (by omega) (fun r hr => by have := hob r hr; omega)
          have HT5 : Hid (OwnTr w5 w.heap.size SM u3 ((l.take j).map some)) := (HTk.out.alloc keepT _).keep keepT g5 (fun r hr => ⟨fun h => by have := HOX.1 r h; have := hob r hr; omega, fun h => by have := HOX.2 r h; have := hob r hr; omega⟩)
          clear HAL HTk HXk c2 hT
          go_wp2_with fail
          go_roundw
          case rel =>
            refine ⟨k + 1, .slice (some ⟨g, 0, none⟩) (vs.length + k + 1) cap, _, by omega, by go_num, B5.grown (grown_set1 w5 X 2 _) (by omega) (fun r hr => by have := Option.some.inj hr; omega), set_block hX5 2 _, ?_, fun b hb => hb, ?_⟩
            · show OwnSt _ _ _ _ _
              rw [List.replicate_succ']
              exact o5.set keepS (by omega) 2 _
            · exact HT5.out.keep keepT (grown_set1 w5 X 2 _) (fun r hr => by
                obtain rfl := Option.some.inj hr
                exact ⟨fun h => by have := HOX.1 _ h; omega, fun h => by have := HOX.2 _ h; omega⟩)
          case measure => simp [RowKit.intOf]; omega
        · obtain rfl : k = 70 := by omega
          go_wp2_with fail
          obtain ⟨g, cap, hv, hc1, hc2, hg1, hg2⟩ := own_some HSk.out (by simp)
          have hlen : (vs ++ List.replicate 70 roomS).length = vs.length + 70 := by simp
          rw [hlen] at hv hc1
          subst hv
          have p2 := (Bk.cell (p := ⟨bl, ol + j * 3 + 2, none⟩) hbl).trans HQ1.out
          have TRM := hmk (term_of HSk.out hc1 hc2 HOP.out HKS.out (fun i hi => (HTS.out w (Below.refl _ _) i hi).2.1))
          have c2 : wr.drew.cell? ⟨X, 2, none⟩ = some (.slice (some ⟨g, 0, none⟩) (vs.length + 70) cap) := by show wr.cell? _ = _; rw [cell_of_block HXk.out]; rfl
          have y8 : (vs.length : Int) ≤ (cap : Int) := by omega
          refine wp_region_held_drew (S := fun Y => Y.cell? ⟨bl, ol + j * 3 + 2, none⟩ = some (.slice a vs.length c)) (by kernel_rfl) p2 (fun hHeld => ?_)
          (refine wpAnyH_take (i := 0) (v := ?_) rfl (by kernel_rfl) (by kernel_rfl) (by kernel_rfl) (fun _ _ _ h => h) (Or.inl ⟨by kernel_rfl, ?_⟩) (by assumption) ?_; rotate_left 1; (intro W0 hSw; skip; go_simp; (try with_reducible rfl)); (try simp only [Act.put, List.setIfInBounds_toArray, List.set_cons_zero, List.set_cons_succ]))
          (refine wpAnyH_take (i := 2) (v := ?_) rfl (by kernel_rfl) (by kernel_rfl) (by kernel_rfl) (fun _ _ _ h => h) (Or.inl ⟨by kernel_rfl, ?_⟩) (by assumption) ?_; rotate_left 1; (intro W0 hSw; skip; go_simp; (try with_reducible rfl)); (try simp only [Act.put, List.setIfInBounds_toArray, List.set_cons_zero, List.set_cons_succ]))
          (refine wpAnyH_take (i := 3) (v := ?_) rfl (by kernel_rfl) (by kernel_rfl) (by kernel_rfl) (fun _ _ _ h => h) (Or.inl ⟨by kernel_rfl, ?_⟩) (by assumption) ?_; rotate_left 1; (intro W0 hSw; skip; go_simp; (try with_reducible rfl)); (try simp only [Act.put, List.setIfInBounds_toArray, List.set_cons_zero, List.set_cons_succ]))
          (refine wpAnyH_take (i := 4) (v := ?_) rfl (by kernel_rfl) (by kernel_rfl) (by kernel_rfl) (fun _ _ _ h => h) (Or.inl ⟨by kernel_rfl, ?_⟩) (by assumption) ?_; rotate_left 1; (intro W0 hSw; skip; go_simp; (try with_reducible rfl)); (try simp only [Act.put, List.setIfInBounds_toArray, List.set_cons_zero, List.set_cons_succ]))
          (refine wpAnyH_take (i := 5) (v := ?_) rfl (by kernel_rfl) (by kernel_rfl) (by kernel_rfl) (fun _ _ _ h => h) (Or.inl ⟨by kernel_rfl, ?_⟩) (by assumption) ?_; rotate_left 1; (intro W0 hSw; skip; go_simp; (try with_reducible rfl)); (try simp only [Act.put, List.setIfInBounds_toArray, List.set_cons_zero, List.set_cons_succ]))
          (refine wpAnyH_take (i := 6) (v := ?_) rfl (by kernel_rfl) (by kernel_rfl) (by kernel_rfl) (fun _ _ _ h => h) (Or.inl ⟨by kernel_rfl, ?_⟩) (by assumption) ?_; rotate_left 1; (intro W0 hSw; skip; go_simp; (try with_reducible rfl)); (try simp only [Act.put, List.setIfInBounds_toArray, List.set_cons_zero, List.set_cons_succ]))
          (refine wpAnyH_take (i := 7) (v := ?_) rfl (by kernel_rfl) (by kernel_rfl) (by kernel_rfl) (fun _ _ _ h => h) (Or.inl ⟨by kernel_rfl, ?_⟩) (by assumption) ?_; rotate_left 1; (intro W0 hSw; skip; go_simp; (try with_reducible rfl)); (try simp only [Act.put, List.setIfInBounds_toArray, List.set_cons_zero, List.set_cons_succ]))
          refine wpAnyH_ready (rs := [1]) (by kernel_rfl) (by simp) ?_
          refine AllReadyH.cons rfl (fun K hK => ?_) AllReadyH.nil
          go_simp
          refine hK.out _ _ p2 (fun hHeld => ?_)
          clear hK K c2
          (try simp only [Act.put, List.setIfInBounds_toArray, List.set_cons_zero, List.set_cons_succ])
          (refine wpAnyH_take (i := 8) (v := ?_) rfl (by kernel_rfl) (by kernel_rfl) (by kernel_rfl) (fun _ _ _ h => h) (Or.inl ⟨by kernel_rfl, ?_⟩) (by assumption) ?_; rotate_left 1; (intro W0 hSw; skip; go_simp; (try with_reducible rfl)); (try simp only [Act.put, List.setIfInBounds_toArray, List.set_cons_zero, List.set_cons_succ]))
          (refine wpAnyH_take (i := 9) (v := ?_) rfl (by kernel_rfl) (by kernel_rfl) (by kernel_rfl) (fun _ _ _ h => h) (Or.inl ⟨by kernel_rfl, ?_⟩) (by assumption) ?_; rotate_left 1; (intro W0 hSw; skip; go_simp; (try with_reducible rfl)); (try simp only [Act.put, List.setIfInBounds_toArray, List.set_cons_zero, List.set_cons_succ]))
          have hX6 : wr.drew.heap[X]? = some (.cells #[.string key, .int .i64 op, .slice (some ⟨g, 0, none⟩) (vs.length + 70) cap] 50) := HXk.out
          have e3 : wr.drew.cell? ⟨X, 2, none⟩ = some (.slice (some ⟨g, 0, none⟩) (vs.length + 70) cap) := by rw [cell_of_block hX6]; rfl
          have f3 : wr.drew.frozen? ⟨X, 2, none⟩ = false := frozen_of_block hX6 2
          have hbne : bl ≠ X := by have := HXW.out; omega
          have p4 : (wr.drew.setCell ⟨X, 2, none⟩ (.slice (some ⟨g, 0, none⟩) vs.length cap)).cell? ⟨bl, ol + j * 3 + 2, none⟩ = some (.slice a vs.length c) := (World.cell?_setCell_far wr.drew ⟨X, 2, none⟩ ⟨bl, ol + j * 3 + 2, none⟩ (.slice (some ⟨g, 0, none⟩) vs.length cap) (fun e => hbne e.symm)).trans p2
          refine wpAnyH_ready (rs := [10]) (by kernel_rfl) (by simp) ?_
          refine AllReadyH.cons rfl (fun K hK => ?_) AllReadyH.nil
          go_simp
          refine hK.out _ _ p4 (fun hHeld => ?_)
          clear hK K
          (try simp only [Act.put, List.setIfInBounds_toArray, List.set_cons_zero, List.set_cons_succ])
          refine wpAnyH_done (by kernel_rfl) ?_ _
          (try dsimp only [Act.put, List.getElem_toArray, List.getElem_cons_succ, List.getElem_cons_zero, List.setIfInBounds_toArray, List.set_cons_zero, List.set_cons_succ])
          have hX7 : ((wr.setCell ⟨X, 2, none⟩ (.slice (some ⟨g, 0, none⟩) vs.length cap)).drew).heap[X]? = some (.cells #[.string key, .int .i64 op, .slice (some ⟨g, 0, none⟩) vs.length cap] 50) := set_block HXk.out 2 (.slice (some ⟨g, 0, none⟩) vs.length cap)
          have hgX : g ≠ X := by omega
          have TR7 : Hid (Trm.lies true ((wr.setCell ⟨X, 2, none⟩ (.slice (some ⟨g, 0, none⟩) vs.length cap)).drew) (fun b => b = g) (key, op, vs) [.string key, .int .i64 op, .slice (some ⟨g, 0, none⟩) vs.length cap]) := Trm.lies_keep (fun h => h) TRM.out (fun b hb => (set_other7 (w := wr) (o := 2) (u := .slice (some ⟨g, 0, none⟩) vs.length cap) (by rw [hb]; exact hgX))) (fun _ h => h)
          have OT7 : Hid (OwnTr ((wr.setCell ⟨X, 2, none⟩ (.slice (some ⟨g, 0, none⟩) vs.length cap)).drew) w.heap.size SM u3 ((l.take j).map some)) := (HTk.out.keep keepT (grown_set1 wr X 2 (.slice (some ⟨g, 0, none⟩) vs.length cap)) (fun r hr => by
            obtain rfl := Option.some.inj hr
            exact ⟨fun h => by have := HOX.1 _ h; omega, fun h => by have := HOX.2 _ h; omega⟩)).below keepT (Below.refl _ _).drew
          have B7 : Below w.heap.size w ((wr.setCell ⟨X, 2, none⟩ (.slice (some ⟨g, 0, none⟩) vs.length cap)).drew) := (Bk.grown (grown_set1 wr X 2 (.slice (some ⟨g, 0, none⟩) vs.length cap)) Bk.size (fun r hr => by have := Option.some.inj hr; have := HXW.out; omega)).drew
          have hz7 : ((wr.setCell ⟨X, 2, none⟩ (.slice (some ⟨g, 0, none⟩) vs.length cap)).drew).heap.size = wr.heap.size := by show (wr.setCell ⟨X, 2, none⟩ (.slice (some ⟨g, 0, none⟩) vs.length cap)).heap.size = _; simp [World.setCell]
          have HX7 := hmk hX7
          clear hHeld hX7 hX6 p2 p4 e3 f3 TRM HSk HTk HXk
          generalize ((wr.setCell ⟨X, 2, none⟩ (.slice (some ⟨g, 0, none⟩) vs.length cap)).drew) = w7 at *
          obtain ⟨z0, z1, z2⟩ := row3 (row3b HX7.out)
          have hXl7 := lt_blk HX7.out
          have hT7 := heap_alloc_new w7 (.cells #[.string key, .int .i64 op, .slice (some ⟨g, 0, none⟩) vs.length cap] 50)
          have a7 : Below w7.heap.size w7 (w7.alloc (.cells #[.string key, .int .i64 op, .slice (some ⟨g, 0, none⟩) vs.length cap] 50)) := (Below.refl _ _).alloc (Nat.le_refl _) _
          have hz8 : (w7.alloc (.cells #[.string key, .int .i64 op, .slice (some ⟨g, 0, none⟩) vs.length cap] 50)).heap.size = w7.heap.size + 1 := by simp
          have HAT : Hid (OwnTr (w7.alloc (.cells #[.string key, .int .i64 op, .slice (some ⟨g, 0, none⟩) vs.length cap] 50)) w.heap.size SM u3 ((l.take j).map some)) := OT7.out.alloc keepT _
          have HE7 : Hid (ET (some (key, op, vs)) (w7.alloc (.cells #[.string key, .int .i64 op, .slice (some ⟨g, 0, none⟩) vs.length cap] 50)) (fun b => b = g) [.string key, .int .i64 op, .slice (some ⟨g, 0, none⟩) vs.length cap]) := Trm.lies_keep (fun h => h) TR7.out (fun b hb => a7.block b (by rw [hb]; omega)) (fun _ h => h)
          have HSX : Hid (∀ b, b = g → w.heap.size ≤ b ∧ b < (w7.alloc (.cells #[.string key, .int .i64 op, .slice (some ⟨g, 0, none⟩) vs.length cap] 50)).heap.size ∧ some b ≠ u3.ownBlock) := fun b hb => ⟨by have := HXW.out; omega, by rw [hz8]; omega, fun e => by have := HOX.2 _ e.symm; omega⟩
          have HLN : Hid (((l.take j).map some).length ≤ 4294967296) := by show _ ≤ _; simp; omega
          have HBS7 : Hid (w.heap.size ≤ (w7.alloc (.cells #[.string key, .int .i64 op, .slice (some ⟨g, 0, none⟩) vs.length cap] 50)).heap.size) := by show _ ≤ _; have := HXW.out; omega
          have HZ7 := hmk hz7
          have HZ8 := hmk hz8
          clear OT7 TR7 hz7 hz8
          go_wp2_with (at_builtin; go_loud (refine wpl_push keepT _ rfl (.tmp 53) (.tmp 55) 22 rfl w.heap.size i5 _ 48 Tryd.underlying22 hJ.out.1 hJ.out.2.1 hJ.out.2.2.1 hJ.out.2.2.2 rfl (by decide) (by decide) _ (some (key, op, vs)) rfl HAT.out w7.heap.size 1 (0, 0) rfl hT7 rfl one3 HE7.out HSX.out HLN.out HBS7.out ?_))
          intro g2 cap2 w8 o8 g8 e8
          have hob : ∀ r, u3.ownBlock = some r → w.heap.size ≤ r := fun r hr => (HAT.out.lt hr).1
          have B8 : Below w.heap.size w w8 := (B7.alloc (by have := HXW.out; have := HZ7.out; omega) _).grown g8 HBS7.out (fun r hr => hob r hr)
          have o8' : OwnTr w8 w.heap.size (fun b => SM b ∨ b = g) (.slice (some ⟨g2, 0, none⟩) (j + 1) cap2) ((l.map some).take (j + 1)) := by rw [HT.out]; exact o8
          have HO8 := hmk o8'
          clear HAT HE7 HSX hT7 o8 o8' z0 z1 z2 HX7
          go_wp2_with fail
          go_roundw
          case rel => exact ⟨j + 1, _, by omega, by go_num, B8, by rw [List.map_take]; exact HO8⟩
          case measure => simp [RowKit.intOf]; omega
    · obtain rfl : j = l.length := by omega
      rw [List.take_length] at HO
      go_wp2_with fail
      go_loopw [3, 7] (fun e3 e7 wq => ∃ (k : Nat) (SM : Nat → Prop), k ≤ 70 ∧ e7 = .int .i64 (k : Int) ∧ Below w.heap.size w wq ∧ Hid (OwnTr wq w.heap.size SM e3 (l.map some ++ List.replicate k none))) (fun _ e7 _ => 70 - (RowKit.intOf e7).toNat)
      case atStart => exact ⟨0, SM, by omega, rfl, Bj, (by show OwnTr _ _ _ _ _; simpa using HO.out)⟩
      case round =>
        clear HO Bj hzr
        obtain ⟨k, SM2, hk, rfl, Bk, HK⟩ := hrel
        have hzk := Bk.size
        by_cases hk7 : (k : Int) < 70
        · have hT := heap_alloc_new wr (.cells #[.string ⟨#[]⟩, .int .i64 (-9), .slice none 0 0] 50)
          have hlen : (l.map some ++ List.replicate k (none : Option Trm)).length = l.length + k := by simp
          have HAL : Hid (OwnTr (wr.alloc (.cells #[.string ⟨#[]⟩, .int .i64 (-9), .slice none 0 0] 50)) w.heap.size SM2 u3 (l.map some ++ List.replicate k none)) := HK.out.alloc keepT _
          have HLN : Hid ((l.map some ++ List.replicate k (none : Option Trm)).length ≤ 4294967296) := by show _ ≤ _; rw [hlen]; omega
          have HZ : Hid ((wr.alloc (.cells #[.string ⟨#[]⟩, .int .i64 (-9), .slice none 0 0] 50)).heap.size = wr.heap.size + 1) := by show _ = _; simp
          have HBS : Hid (w.heap.size ≤ (wr.alloc (.cells #[.string ⟨#[]⟩, .int .i64 (-9), .slice none 0 0] 50)).heap.size) := by show _ ≤ _; rw [HZ.out]; omega
          go_wp2_with (at_builtin; go_loud (refine wpl_push keepT _ rfl (.tmp 61) (.tmp 63) 22 rfl w.heap.size i5 _ 48 Tryd.underlying22 hJ.out.1 hJ.out.2.1 hJ.out.2.2.1 hJ.out.2.2.2 rfl (by decide) (by decide) (Sx := fun _ => False) _ none rfl HAL.out wr.heap.size 1 (0, 0) rfl hT rfl one3 (et_none _ _) (fun b hb => hb.elim) HLN.out HBS.out ?_))
          intro g2 cap2 w8 o8 g8 e8
          have hob : ∀ r, u3.ownBlock = some r → w.heap.size ≤ r := fun r hr => (HK.out.lt hr).1
          have B8 : Below w.heap.size w w8 := (Bk.alloc (by omega) _).grown g8 HBS.out (fun r hr => hob r hr)
          have HO8 : Hid (OwnTr w8 w.heap.size (fun b => SM2 b) (.slice (some ⟨g2, 0, none⟩) (l.length + k + 1) cap2) (l.map some ++ List.replicate (k + 1) none)) := by show OwnTr _ _ _ _ _; rw [List.replicate_succ']; exact o8
          clear HAL hT o8 HK
          go_wp2_with fail
          go_roundw
          case rel => exact ⟨k + 1, _, by omega, by go_num, B8, HO8⟩
          case measure => simp [RowKit.intOf]; omega
        · obtain rfl : k = 70 := by omega
          obtain ⟨g, cap, hv, hc1, hc2, hg1, hg2⟩ := own_some HK.out (by simp)
          have hlen : (l.map some ++ List.replicate 70 (none : Option Trm)).length = l.length + 70 := by simp
          rw [hlen] at hv hc1
          subst hv
          have y8 : (l.length : Int) ≤ (cap : Int) := by omega
          have y9 : (0 : Int) ≤ (l.length : Int) := by omega
          have RM := hmk (rm_of HK.out rfl)
          clear HK
          go_wp2_with fail
          refine ⟨rfl, .slice (some ⟨g, 0, none⟩) l.length cap, (by first | rfl | kernel_rfl | (simp [results, Tryd.f12]; done) | (go_simp; done) | (unfold Tryd.f12; simp [results])), g, cap, rfl, hc1, hc2, hg1, hg2, RM.out.1, RM.out.2, Bk⟩
end Go.Proofs.YtagjbphadakifaaDoor
