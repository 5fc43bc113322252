/- joined: JmC JnA -/
import Derived.Test.YtpmhdcmmlkjjmaaGreatDoorG44
import Derived.Deep.DeepAppendWide
/- freeholdref00's bound: a value, a list of values. -/
set_option linter.unusedSimpArgs false
set_option linter.unusedVariables false
set_option maxRecDepth 100000
namespace Go.Proofs.YtpmhdcmmlkjjmaaGreatDoor
open Go.RowKit Go.Lib
/-- whether a value is beyond the bound; if not, how heavy it is -/
def BeyPost (x : Nat) (w : World) (e : Ending) (w' : World) : Prop := ∃ r, e = .returned (.bool r) ∧ (r = false → x ≤ 2147483647) ∧ Below w.heap.size w w'
set_option maxHeartbeats 4000000 in
theorem beyond_any (v : V) (S : Nat → Prop) (cs : List Value) (w : World) (hl : v.lies false w S cs) (hS : ∀ b, S b → b < w.heap.size) : Calls Tryz.prog 9 #[.agg cs.toArray] w (BeyPost v.wt w) := by
  obtain ⟨k, b, i, s, al, nl, cl, am, nm, cm, rfl⟩ := V.ten hl
  have ga : w.grownBy ((w.alloc (.cells #[.int .i64 k, .bool b, .int .i64 i, .string s, .slice al nl cl, .slice am nm cm] 25)).alloc (.cells #[.int .i64 0] 53)) none := grown_alloc (World.grownBy_alloc _ _ _) _
  have hn := alloc2_new w (.cells #[.int .i64 k, .bool b, .int .i64 i, .string s, .slice al nl cl, .slice am nm cm] 25) (.cells #[.int .i64 0] 53)
  have hC : Cnt (w.heap.size + 1) 0 ((w.alloc (.cells #[.int .i64 k, .bool b, .int .i64 i, .string s, .slice al nl cl, .slice am nm cm] 25)).alloc (.cells #[.int .i64 0] 53)) := ⟨by rw [cell_of_block hn]; rfl, frozen_of_block hn 0⟩
  have c := cval_any v (w.heap.size + 1) 0 65520 S _ _ (V.lies_keep (fun h => h) (fun x hx => ga.block x (hS x hx) (by simp)) (fun _ h => h) _ hl) (fun x hx => ⟨by have := hS x hx; omega, Nat.lt_of_lt_of_le (hS x hx) ga.size⟩) hC (by omega) (by omega)
  have e5 : ((65520 : Nat) : Int) = 65520 := rfl
  rw [e5] at c
  go_enter Tryz.func9, Tryz.ntmps9
  go_wp2_with fail
  refine c.mono ?_
  rintro e w1 ⟨r, rfl, g1, h1⟩
  go_wp2_with fail
  go_ret
  exact ⟨r, rfl, fun h => by have := (h1 h).1; omega, (below_of_grown ga).grown g1 ga.size (fun q e => by cases e; omega)⟩
end Go.Proofs.YtpmhdcmmlkjjmaaGreatDoor
/- bytes that lie somewhere, appended to a row of bytes; two such rows side by side. -/
set_option maxRecDepth 100000
namespace Go.Proofs.YtpmhdcmmlkjjmaaGreatDoor
open Go.RowKit Go.Lib
theorem run_byt (w : World) (B : Nat) (v : Value) (l : List UInt8) (hown : OwnB B v l w) (ty : TypeId) (a : Addr) (c : Nat) (new : List UInt8) (hnews : ∀ j u, (byteCells new)[j]? = some u → w.cell? (a.add j) = some u)
    (hlen : l.length + new.length ≤ 140737500000000) (hbase : B ≤ w.heap.size) (h0 : 0 < new.length) :
    ∃ v' w', (Builtin.append_ #[28, 28] ty #[v, .slice (some a) new.length c]).run Tryz.prog w = .ok v' w' ∧ OwnB B v' (l ++ new) w' ∧ w.grownBy w' v.ownBlock ∧ Lands v w.heap.size v' := by
  obtain ⟨i0, hi, hz0, hz1, hz2⟩ := info_parts info5
  have e : byteCells (l ++ new) = byteCells l ++ byteCells new := by simp [byteCells]
  have hl1 : (byteCells new).length = new.length * i0.size := by rw [byteCells_len, hz1, Nat.mul_one]
  obtain ⟨v', w', hr, h1, h2, h3⟩ := run_append_own_wide (P := Tryz.prog) w B 28 ty 5 i0 (.int .u8 0) 1 1 Tryz.underlying28 hi hz0 hz1 hz2 rfl (by decide) v l.length (byteCells l) hown a new.length c (byteCells new) (by rw [byteCells_len, Nat.mul_one]) hnews (byte_one new) (by simp only [maxLen]; omega) (by omega) hbase
  refine ⟨v', w', hr, ?_, h2, fun g hg => ?_⟩
  · show w'.ownsRow B 5 1 v' (l ++ new).length (byteCells (l ++ new))
    rw [e, List.length_append]
    exact h1
  · rcases hown.2 with ⟨rfl, e0⟩ | ⟨g0, cap, cur, rfl, hbg, hgg, hnc, hcm, hcs, htake⟩
    · have hn := run_append_nil (P := Tryz.prog) w 28 ty 5 i0 (.int .u8 0) Tryz.underlying28 hi hz0 a new.length c (byteCells new) hl1 hnews h0 (by omega) (by rw [hz2]; omega)
      rw [hn] at hr
      injection hr with e1 e2
      subst e1
      have : w.heap.size = g := by simpa [Value.ownBlock] using hg
      exact .inr (by omega)
    · by_cases hroom : l.length + new.length ≤ cap
      · obtain ⟨w2, hr2, _⟩ := run_append_fits (P := Tryz.prog) w B 28 ty 5 i0 1 Tryz.underlying28 hi hz1 g0 l.length cap (byteCells l) hown a new.length c (byteCells new) (by rw [byteCells_len, Nat.mul_one]) hnews (byte_one new) hroom
        rw [hr2] at hr
        injection hr with e1 e2
        subst e1
        exact .inl hg
      · have hcells : ∀ j u, (byteCells l)[j]? = some u → w.cell? ((⟨g0, 0, none⟩ : Addr).add j) = some u := World.ownsRow.cells hown (g := g0) rfl
        have hn := run_append_grow (P := Tryz.prog) w 28 ty 5 i0 (.int .u8 0) Tryz.underlying28 hi hz0 ⟨g0, 0, none⟩ l.length cap (byteCells l) (by rw [byteCells_len, hz1, Nat.mul_one]) hcells a new.length c (byteCells new) hl1 hnews (by omega) (by omega) (growslice_fits_wide (by omega) (by rw [hz2]; omega))
        rw [hn] at hr
        injection hr with e1 e2
        subst e1
        have : w.heap.size = g := by simpa [Value.ownBlock] using hg
        exact .inr (by omega)
theorem byt_cells {w : World} {a : Addr} {n cap b o : Nat} {l : List UInt8} (hd : Headed (some a) l.length cap b o) (hc : ∀ (j : Nat) (h : j < l.length), b < w.heap.size ∧ w.cell? ⟨b, o + j, none⟩ = some (.int .u8 ((l[j]).toNat : Int))) :
    ∀ j u, (byteCells l)[j]? = some u → w.cell? (a.add j) = some u := fun j u hu => by
  have hj : j < l.length := by
    rcases Nat.lt_or_ge j l.length with q | q
    · exact q
    · rw [List.getElem?_eq_none (by rw [byteCells_len]; exact q)] at hu; cases hu
  have h1 : some a = some (⟨b, o, none⟩ : Addr) := hd.at_.resolve_left (by omega)
  obtain rfl := Option.some.inj h1
  rw [Go.WideShapes.add_plain, (hc j hj).2]
  rw [← hu]
  simp [byteCells, hj]
/-- append(row, bytes...) -/
theorem wpl_byt {ops : Array Oper} {rest : List Oper} {o : Oper} {a : Act} {Q : Exit → Act → World → Prop} (w : World) (hgd : o.guard = none) (s x : Operand)
    (ho : o.op = .call { callee := .builtin .append, args := #[s, x], argTypes := #[28, 28] }) (B : Nat) (v : Value) (l : List UInt8) (hs : a.eval s = v) (hown : OwnB B v l w)
    (y : Value) (new : List UInt8) (hx : a.eval x = y) (hy : Byt w y new) (hlen : l.length + new.length ≤ 140737500000000) (hbase : B ≤ w.heap.size)
    (h : ∀ v' w', OwnB B v' (l ++ new) w' → w.grownBy w' v.ownBlock → Lands v w.heap.size v' → wpList Tryz.prog ops Q rest (a.put o.dst v') w') : wpList Tryz.prog ops Q (o :: rest) a w := by
  obtain ⟨i0, hi, hz0, hz1, hz2⟩ := info_parts info5
  obtain ⟨ao, cap, b, q, rfl, hd, hc⟩ := hy
  by_cases h0 : new.length = 0
  · obtain rfl := List.length_eq_zero_iff.1 h0
    have fin : ∀ w', OwnB B v l w' → w.grownBy w' v.ownBlock → wpList Tryz.prog ops Q rest (a.put o.dst v) w' := fun w' h1 h2 => h v w' (by rw [List.append_nil]; exact h1) h2 (Lands.refl _ _)
    cases ao with
    | none =>
      have hcap := hd.nil rfl
      subst hcap
      exact wpList_append_own_none hgd s x 28 ho B 5 i0 1 Tryz.underlying28 hi v l.length (byteCells l) hs hown hx (fin _ hown (World.grownBy.refl _ _))
    | some ad =>
      rcases hown.2 with ⟨rfl, e0⟩ | ⟨g, cap', cur, rfl, hb, hg, hc1, hc2, hc3, hc4⟩
      · refine wpList_append_own w hgd s x 28 ho B 5 i0 (.int .u8 0) 1 1 Tryz.underlying28 hi hz0 hz1 hz2 rfl (by decide) _ l.length (byteCells l) hs hown ad 0 cap [] hx (by simp) (fun j u hu => by simp at hu) (fun u hu => by simp at hu) (by simp only [maxLen]; omega) (by omega) hbase ?_
        intro v' w' r1 r2 r3
        obtain rfl := r3.2 ⟨rfl, rfl⟩
        exact fin _ (show w'.ownsRow B 5 1 _ l.length (byteCells l) by simpa using r1) r2
      · obtain ⟨w', hrun, r1, r2⟩ := run_append_fits (P := Tryz.prog) w B 28 o.type 5 i0 1 Tryz.underlying28 hi hz1 g l.length cap' (byteCells l) hown ad 0 cap [] (by simp) (fun j u hu => by simp at hu) (fun u hu => by simp at hu) (by omega)
        refine wpList_plain hgd fun K' hK' => ?_
        unfold Oper.wp execOp
        simp only [ho, resolve, invoke, builtin, Sem.run_bind, Sem.run_pure, Result.andThen_ok, List.map_toArray, List.map_cons, List.map_nil, hs, hx, hrun, List.length_nil]
        exact hK' _ _ (fin _ (show w'.ownsRow B 5 1 _ l.length (byteCells l) by simpa using r1) r2)
  · obtain ⟨ad, rfl⟩ : ∃ ad, ao = some ad := ⟨_, hd.at_.resolve_left h0⟩
    obtain ⟨v', w', hrun, r1, r2, r3⟩ := run_byt w B v l hown o.type ad cap new (byt_cells (n := 0) hd hc) hlen hbase (by omega)
    refine wpList_plain hgd fun K' hK' => ?_
    unfold Oper.wp execOp
    simp only [ho, resolve, invoke, builtin, Sem.run_bind, Sem.run_pure, Result.andThen_ok, List.map_toArray, List.map_cons, List.map_nil, hs, hx, hrun]
    exact hK' _ _ (h v' w' r1 r2 r3)
/-- two rows of the call's own, side by side -/
structure Two (B : Nat) (x y : Value) (l m : List UInt8) (w : World) : Prop where
  a : OwnB B x l w
  b : OwnB B y m w
  ne : ∀ g, x.ownBlock = some g → y.ownBlock ≠ some g
theorem Two.below {B : Nat} {x y : Value} {l m : List UInt8} {w w' : World} (T : Two B x y l m w) (hb : Below w.heap.size w w') : Two B x y l m w' := ⟨T.a.below hb, T.b.below hb, T.ne⟩
theorem Two.nil (B : Nat) (w : World) : Two B (.slice none 0 0) (.slice none 0 0) [] [] w := ⟨OwnB.nil B w, OwnB.nil B w, fun g h => by simp [Value.ownBlock] at h⟩
theorem Byt.one (w : World) (c : UInt8) (fr : Nat × Nat) : Byt (w.alloc (.cells #[.int .u8 (c.toNat : Int)] 5 fr)) (.slice (some ⟨w.heap.size, 0, none⟩) 1 1) [c] := by
  refine ⟨_, 1, w.heap.size, 0, rfl, ⟨by simp, by simp [maxLen], .inr rfl, fun h => by cases h⟩, fun j hj => ?_⟩
  have hj0 : j = 0 := by simp at hj; omega
  subst hj0
  refine ⟨by rw [alloc_size]; omega, ?_⟩
  rw [cell_of_block (heap_alloc_new w _)]
  rfl
end Go.Proofs.YtpmhdcmmlkjjmaaGreatDoor
