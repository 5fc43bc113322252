/- joined: JnA JnB JmE -/
import Derived.Test.YtpmhdcmmlkjjmaaGreatDoorG47
import Derived.Deep.DeepAppendWide
/- bytes that lie somewhere, appended to a row of bytes; two such rows side by side. -/
set_option linter.unusedSimpArgs false
set_option linter.unusedVariables false
set_option maxRecDepth 100000
namespace Go.Proofs.YtpmhdcmmlkjjmaaGreatDoor
open Go.RowKit Go.Lib
theorem run_byt (w : World) (B : Nat) (v : Value) (l : List UInt8) (hown : OwnB B v l w) (ty : TypeId) (a : Addr) (c : Nat) (new : List UInt8) (hnews : ∀ j u, (byteCells new)[j]? = some u → w.cell? (a.add j) = some u)
    (hlen : l.length + new.length ≤ 140737500000000) (hbase : B ≤ w.heap.size) (h0 : 0 < new.length) :
    ∃ v' w', (Builtin.append_ #[28, 28] ty #[v, .slice (some a) new.length c]).run Tryz.prog w = .ok v' w' ∧ OwnB B v' (l ++ new) w' ∧ w.grownBy w' v.ownBlock ∧ Lands v w.heap.size v' := by
  obtain ⟨i0, hi, hz0, hz1, hz2⟩ := info_parts info5
  have e : byteCells (l ++ new) = byteCells l ++ byteCells new := by simp [byteCells]
  have hl1 : (byteCells new).length = new.length * i0.size := by rw [byteCells_len, hz1, Nat.mul_one]
  obtain ⟨v', w', hr, h1, h2, h3⟩ := run_append_own_wide (P := Tryz.prog) w B 28 ty 5 i0 (.int .u8 0) 1 1 Tryz.underlying28 hi hz0 hz1 hz2 rfl (by decide) v l.length (byteCells l) hown a new.length c (byteCells new) (by rw [byteCells_len, Nat.mul_one]) hnews (byte_one new) (by simp only [maxLen]; omega) (by omega) hbase
  refine ⟨v', w', hr, ?_, h2, fun g hg => ?_⟩
  · show w'.ownsRow B 5 1 v' (l ++ new).length (byteCells (l ++ new))
    rw [e, List.length_append]
    exact h1
  · rcases hown.2 with ⟨rfl, e0⟩ | ⟨g0, cap, cur, rfl, hbg, hgg, hnc, hcm, hcs, htake⟩
    · have hn := run_append_nil (P := Tryz.prog) w 28 ty 5 i0 (.int .u8 0) Tryz.underlying28 hi hz0 a new.length c (byteCells new) hl1 hnews h0 (by omega) (by rw [hz2]; omega)
      rw [hn] at hr
      injection hr with e1 e2
      subst e1
      have : w.heap.size = g := by simpa [Value.ownBlock] using hg
      exact .inr (by omega)
    · by_cases hroom : l.length + new.length ≤ cap
      · obtain ⟨w2, hr2, _⟩ := run_append_fits (P := Tryz.prog) w B 28 ty 5 i0 1 Tryz.underlying28 hi hz1 g0 l.length cap (byteCells l) hown a new.length c (byteCells new) (by rw [byteCells_len, Nat.mul_one]) hnews (byte_one new) hroom
        rw [hr2] at hr
        injection hr with e1 e2
        subst e1
        exact .inl hg
      · have hcells : ∀ j u, (byteCells l)[j]? = some u → w.cell? ((⟨g0, 0, none⟩ : Addr).add j) = some u := World.ownsRow.cells hown (g := g0) rfl
        have hn := run_append_grow (P := Tryz.prog) w 28 ty 5 i0 (.int .u8 0) Tryz.underlying28 hi hz0 ⟨g0, 0, none⟩ l.length cap (byteCells l) (by rw [byteCells_len, hz1, Nat.mul_one]) hcells a new.length c (byteCells new) hl1 hnews (by omega) (by omega) (growslice_fits_wide (by omega) (by rw [hz2]; omega))
        rw [hn] at hr
        injection hr with e1 e2
        subst e1
        have : w.heap.size = g := by simpa [Value.ownBlock] using hg
        exact .inr (by omega)
theorem byt_cells {w : World} {a : Addr} {n cap b o : Nat} {l : List UInt8} (hd : Headed (some a) l.length cap b o) (hc : ∀ (j : Nat) (h : j < l.length), b < w.heap.size ∧ w.cell? ⟨b, o + j, none⟩ = some (.int .u8 ((l[j]).toNat : Int))) :
    ∀ j u, (byteCells l)[j]? = some u → w.cell? (a.add j) = some u := fun j u hu => by
  have hj : j < l.length := by
    rcases Nat.lt_or_ge j l.length with q | q
    · exact q
    · rw [List.getElem?_eq_none (by rw [byteCells_len]; exact q)] at hu; cases hu
  have h1 : some a = some (⟨b, o, none⟩ : Addr) := hd.at_.resolve_left (by omega)
  obtain rfl := Option.some.inj h1
  rw [Go.WideShapes.add_plain, (hc j hj).2]
  rw [← hu]
  simp [byteCells, hj]
/-- append(row, bytes...) -/
theorem wpl_byt {ops : Array Oper} {rest : List Oper} {o : Oper} {a : Act} {Q : Exit → Act → World → Prop} (w : World) (hgd : o.guard = none) (s x : Operand)
    (ho : o.op = .call { callee := .builtin .append, args := #[s, x], argTypes := #[28, 28] }) (B : Nat) (v : Value) (l : List UInt8) (hs : a.eval s = v) (hown : OwnB B v l w)
    (y : Value) (new : List UInt8) (hx : a.eval x = y) (hy : Byt w y new) (hlen : l.length + new.length ≤ 140737500000000) (hbase : B ≤ w.heap.size)
    (h : ∀ v' w', OwnB B v' (l ++ new) w' → w.grownBy w' v.ownBlock → Lands v w.heap.size v' → wpList Tryz.prog ops Q rest (a.put o.dst v') w') : wpList Tryz.prog ops Q (o :: rest) a w := by
  obtain ⟨i0, hi, hz0, hz1, hz2⟩ := info_parts info5
  obtain ⟨ao, cap, b, q, rfl, hd, hc⟩ := hy
  by_cases h0 : new.length = 0
  · obtain rfl := List.length_eq_zero_iff.1 h0
    have fin : ∀ w', OwnB B v l w' → w.grownBy w' v.ownBlock → wpList Tryz.prog ops Q rest (a.put o.dst v) w' := fun w' h1 h2 => h v w' (by rw [List.append_nil]; exact h1) h2 (Lands.refl _ _)
    cases ao with
    | none =>
      have hcap := hd.nil rfl
      subst hcap
      exact wpList_append_own_none hgd s x 28 ho B 5 i0 1 Tryz.underlying28 hi v l.length (byteCells l) hs hown hx (fin _ hown (World.grownBy.refl _ _))
    | some ad =>
      rcases hown.2 with ⟨rfl, e0⟩ | ⟨g, cap', cur, rfl, hb, hg, hc1, hc2, hc3, hc4⟩
      · refine wpList_append_own w hgd s x 28 ho B 5 i0 (.int .u8 0) 1 1 Tryz.underlying28 hi hz0 hz1 hz2 rfl (by decide) _ l.length (byteCells l) hs hown ad 0 cap [] hx (by simp) (fun j u hu => by simp at hu) (fun u hu => by simp at hu) (by simp only [maxLen]; omega) (by omega) hbase ?_
        intro v' w' r1 r2 r3
        obtain rfl := r3.2 ⟨rfl, rfl⟩
        exact fin _ (show w'.ownsRow B 5 1 _ l.length (byteCells l) by simpa using r1) r2
      · obtain ⟨w', hrun, r1, r2⟩ := run_append_fits (P := Tryz.prog) w B 28 o.type 5 i0 1 Tryz.underlying28 hi hz1 g l.length cap' (byteCells l) hown ad 0 cap [] (by simp) (fun j u hu => by simp at hu) (fun u hu => by simp at hu) (by omega)
        refine wpList_plain hgd fun K' hK' => ?_
        unfold Oper.wp execOp
        simp only [ho, resolve, invoke, builtin, Sem.run_bind, Sem.run_pure, Result.andThen_ok, List.map_toArray, List.map_cons, List.map_nil, hs, hx, hrun, List.length_nil]
        exact hK' _ _ (fin _ (show w'.ownsRow B 5 1 _ l.length (byteCells l) by simpa using r1) r2)
  · obtain ⟨ad, rfl⟩ : ∃ ad, ao = some ad := ⟨_, hd.at_.resolve_left h0⟩
    obtain ⟨v', w', hrun, r1, r2, r3⟩ := run_byt w B v l hown o.type ad cap new (byt_cells (n := 0) hd hc) hlen hbase (by omega)
    refine wpList_plain hgd fun K' hK' => ?_
    unfold Oper.wp execOp
    simp only [ho, resolve, invoke, builtin, Sem.run_bind, Sem.run_pure, Result.andThen_ok, List.map_toArray, List.map_cons, List.map_nil, hs, hx, hrun]
    exact hK' _ _ (h v' w' r1 r2 r3)
/-- two rows of the call's own, side by side -/
structure Two (B : Nat) (x y : Value) (l m : List UInt8) (w : World) : Prop where
  a : OwnB B x l w
  b : OwnB B y m w
  ne : ∀ g, x.ownBlock = some g → y.ownBlock ≠ some g
theorem Two.left {B : Nat} {x y x' : Value} {l m l' : List UInt8} {w w' : World} (T : Two B x y l m w) (h1 : OwnB B x' l' w') (h2 : w.grownBy w' x.ownBlock) (h3 : Lands x w.heap.size x') : Two B x' y l' m w' := by
  refine ⟨h1, World.ownsRow.kept T.b h2 ?_, fun g hg e => (h3 g hg).elim (fun q => T.ne g q e) (fun q => by have := (T.b.lt e).2; omega)⟩
  cases hy : y.ownBlock with
  | none => exact .inl rfl
  | some g => exact .inr (fun e => T.ne g e.symm hy)
theorem Two.right {B : Nat} {x y y' : Value} {l m m' : List UInt8} {w w' : World} (T : Two B x y l m w) (h1 : OwnB B y' m' w') (h2 : w.grownBy w' y.ownBlock) (h3 : Lands y w.heap.size y') : Two B x y' l m' w' := by
  refine ⟨World.ownsRow.kept T.a h2 ?_, h1, fun g hg e => (h3 g e).elim (fun q => T.ne g hg q) (fun q => by have := (T.a.lt hg).2; omega)⟩
  cases hy : x.ownBlock with
  | none => exact .inl rfl
  | some g => exact .inr (fun e => T.ne g hy e.symm)
theorem Two.below {B : Nat} {x y : Value} {l m : List UInt8} {w w' : World} (T : Two B x y l m w) (hb : Below w.heap.size w w') : Two B x y l m w' := ⟨T.a.below hb, T.b.below hb, T.ne⟩
theorem Two.nil (B : Nat) (w : World) : Two B (.slice none 0 0) (.slice none 0 0) [] [] w := ⟨OwnB.nil B w, OwnB.nil B w, fun g h => by simp [Value.ownBlock] at h⟩
theorem Byt.one (w : World) (c : UInt8) (fr : Nat × Nat) : Byt (w.alloc (.cells #[.int .u8 (c.toNat : Int)] 5 fr)) (.slice (some ⟨w.heap.size, 0, none⟩) 1 1) [c] := by
  refine ⟨_, 1, w.heap.size, 0, rfl, ⟨by simp, by simp [maxLen], .inr rfl, fun h => by cases h⟩, fun j hj => ?_⟩
  have hj0 : j = 0 := by simp at hj; omega
  subst hj0
  refine ⟨by rw [alloc_size]; omega, ?_⟩
  rw [cell_of_block (heap_alloc_new w _)]
  rfl
set_option maxHeartbeats 4000000 in
theorem twin_own (l : List UInt8) (v : Value) (w : World) (h : Byt w v l) (hl : l.length ≤ 140737488355328) :
    Calls Tryz.prog 21 #[v] w fun e w' => ∃ v', e = .returned v' ∧ OwnB w.heap.size v' l w' ∧ Below w.heap.size w w' := by
  obtain ⟨i1, hi1, hy0, hy1, hy2⟩ := info_parts info5b
  have hJ : Hid (Tryz.prog.info? 5 = some i1 ∧ i1.zero = some (.int .u8 0) ∧ i1.size = 1 ∧ i1.bytes = 1) := ⟨hi1, hy0, hy1, hy2⟩
  clear hi1 hy0 hy1 hy2
  obtain ⟨ao, cap, b, o, rfl, hd, hc⟩ := h
  cases ao with
  | none =>
    have hcap := hd.nil rfl
    subst hcap
    have hl0 : l = [] := List.length_eq_zero_iff.1 (by have := hd.le; omega)
    subst hl0
    go_enter Tryz.func21, Tryz.ntmps21
    go_wp2_with (at_builtin; go_loud (refine wpList_append_own_none rfl (.tmp 4) (.tmp 5) 28 rfl w.heap.size 5 i1 1 Tryz.underlying28 hJ.out.1 (.slice none 0 0) 0 [] rfl (World.ownsRow_nil w _ 5 1) rfl ?_))
    go_wp2_with fail
    go_ret
    exact ⟨_, rfl, OwnB.nil _ _, Below.refl _ _⟩
  | some a =>
    have HA : Hid (∀ j u, (byteCells l)[j]? = some u → w.cell? (a.add j) = some u) := fun j u hu => by
      have hj : j < l.length := by
        rcases Nat.lt_or_ge j l.length with q | q
        · exact q
        · rw [List.getElem?_eq_none (by rw [byteCells_len]; exact q)] at hu; cases hu
      have h1 : some a = some (⟨b, o, none⟩ : Addr) := hd.at_.resolve_left (by omega)
      obtain rfl := Option.some.inj h1
      rw [Go.WideShapes.add_plain, (hc j hj).2]
      rw [← hu]
      simp [byteCells, hj]
    clear hc hd
    go_enter Tryz.func21, Tryz.ntmps21
    go_wp2_with (at_builtin; go_loud (refine wpList_append_own w rfl (.tmp 4) (.tmp 5) 28 rfl w.heap.size 5 i1 _ 1 1 Tryz.underlying28 hJ.out.1 hJ.out.2.1 hJ.out.2.2.1 hJ.out.2.2.2 rfl (by decide) (.slice none 0 0) 0 [] rfl (World.ownsRow_nil w _ 5 1) a l.length cap (byteCells l) rfl (by rw [byteCells_len, Nat.mul_one]) HA.out (byte_one l) (by simp only [maxLen]; omega) (by omega) (Nat.le_refl _) ?_))
    intro v' w' h2 h3 h4
    have HB : Hid (OwnB w.heap.size v' l w') := by show w'.ownsRow w.heap.size 5 1 v' l.length (byteCells l); simpa using h2
    have HW : Hid (Below w.heap.size w w') := (Below.refl w.heap.size w).grown h3 (Nat.le_refl _) (fun r e => by simp [Value.ownBlock] at e)
    clear h2 h3 h4
    go_wp2_with fail
    go_ret
    exact ⟨_, rfl, HB.out, HW.out⟩
end Go.Proofs.YtpmhdcmmlkjjmaaGreatDoor
/- rows of texts, one of them put aside: plain. -/
set_option maxRecDepth 100000
namespace Go.Proofs.YtpmhdcmmlkjjmaaGreatDoor
open Go.RowKit Go.Lib
/-- the texts of values, from place i on, odd in the place bad -/
def uT (bad : Int) (odd : List UInt8) : Nat → List V → List (List UInt8)
  | _, [] => []
  | i, x :: t => (if (i : Int) = bad then odd else txtV x) :: uT bad odd (i + 1) t
theorem uT_len (bad : Int) (odd : List UInt8) : ∀ (l : List V) (i : Nat), (uT bad odd i l).length = l.length
  | [], _ => rfl
  | x :: t, i => by rw [uT, List.length_cons, uT_len bad odd t, List.length_cons]
theorem uT_snoc (bad : Int) (odd : List UInt8) (x : V) : ∀ (l : List V) (i : Nat), uT bad odd i (l ++ [x]) = uT bad odd i l ++ [if ((i + l.length : Nat) : Int) = bad then odd else txtV x]
  | [], i => by simp [uT]
  | y :: t, i => by
    rw [List.cons_append, uT, uT, uT_snoc bad odd x t (i + 1), List.cons_append, List.length_cons]
    have e : i + 1 + t.length = i + (t.length + 1) := by omega
    rw [e]
theorem uT_none (bad : Int) (odd : List UInt8) : ∀ (l : List V) (i : Nat), bad < i → uT bad odd i l = l.map txtV
  | [], _, _ => rfl
  | x :: t, i, h => by rw [uT, if_neg (by omega), uT_none bad odd t (i + 1) (by omega), List.map_cons]
theorem uT_at (odd : List UInt8) : ∀ (l : List V) (i k : Nat), k < l.length → uT ((i + k : Nat) : Int) odd i l = (l.take k).map txtV ++ odd :: (l.drop (k + 1)).map txtV
  | [], i, k, h => by simp at h
  | x :: t, i, 0, h => by rw [uT, if_pos (by simp), uT_none _ _ _ _ (by simp; omega)]; simp
  | x :: t, i, k + 1, h => by
    have e : i + (k + 1) = (i + 1) + k := by omega
    rw [uT, if_neg (by omega), e, uT_at odd t (i + 1) k (by simpa using h)]
    simp
theorem takeV_snoc {l : List V} {j : Nat} (h : j < l.length) : l.take (j + 1) = l.take j ++ [l[j]] := by rw [List.take_add_one, List.getElem?_eq_getElem h]; rfl
theorem row_first (xs : List (List UInt8)) (y : List UInt8) (h : xs = []) : lnJ (xs ++ [y]) = lnJ xs ++ y := by subst h; simp [lnJ]
theorem row_next (xs : List (List UInt8)) (y : List UInt8) (h : xs ≠ []) : lnJ (xs ++ [y]) = lnJ xs ++ [10] ++ y := by rw [lnJ_snoc xs y h]; simp
theorem map_par (l : List V) (h : ∀ x ∈ l, parJ (txtV x) 32 = (x, -1, 0)) : ((l.map txtV).map fun t => (parJ t 32).1) = l := by
  rw [List.map_map]
  conv => rhs; rw [← List.map_id l]
  exact List.map_congr_left fun x hx => by simp [h x hx]
/-- all good: the texts are split into the values -/
theorem rows_split (l : List V) (h : ∀ x ∈ l, parJ (txtV x) 32 = (x, -1, 0)) (hl : (lnJ (l.map txtV)).length ≤ 1048576) : spJ (lnJ (l.map txtV)) = (l, -1, 0) := by
  rw [sp_rows _ (fun t ht => by obtain ⟨x, hx, rfl⟩ := List.mem_map.1 ht; exact txt_okLn (h x hx)) hl, map_par l h]
theorem rows_split_nl (l : List V) (h : ∀ x ∈ l, parJ (txtV x) 32 = (x, -1, 0)) (h0 : l ≠ []) (hl : (lnJ (l.map txtV)).length < 1048576) : spJ (lnJ (l.map txtV) ++ [10]) = (l, -1, 0) := by
  rw [sp_rows_nl _ (fun t ht => by obtain ⟨x, hx, rfl⟩ := List.mem_map.1 ht; exact txt_okLn (h x hx)) (by simpa using h0) hl, map_par l h]
/-- one of them is no text: its number is told -/
theorem rows_bad (l : List V) (odd : List UInt8) (k : Nat) (hk : k < l.length) (h : ∀ x ∈ l, parJ (txtV x) 32 = (x, -1, 0)) (h0 : odd ≠ []) (h10 : (10 : UInt8) ∉ odd) (hp : ¬ (parJ odd 32).2.2 = 0) (hl : (lnJ (uT (k : Int) odd 0 l)).length ≤ 1048576) :
    spJ (lnJ (uT (k : Int) odd 0 l)) = ([], (k : Int), (parJ odd 32).2.2) := by
  have e := uT_at odd l 0 k hk
  rw [Nat.zero_add] at e
  rw [e] at hl ⊢
  rw [sp_spoilt _ _ odd (fun t ht => by obtain ⟨x, hx, rfl⟩ := List.mem_map.1 ht; exact txt_okLn (h x (List.mem_of_mem_take hx))) (fun t ht => by obtain ⟨x, hx, rfl⟩ := List.mem_map.1 ht; exact txt_ne x) h0 h10 hp hl]
  rw [List.length_map, List.length_take, Nat.min_eq_left (by omega)]
/-- it is one: it is read in its place -/
theorem rows_odd (l : List V) (odd : List UInt8) (k : Nat) (hk : k < l.length) (h : ∀ x ∈ l, parJ (txtV x) 32 = (x, -1, 0)) (h0 : odd ≠ []) (h10 : (10 : UInt8) ∉ odd) (hp : (parJ odd 32).2.2 = 0) (hl : (lnJ (uT (k : Int) odd 0 l)).length ≤ 1048576) :
    ∃ a b, spJ (lnJ (uT (k : Int) odd 0 l)) = (a ++ (parJ odd 32).1 :: b, -1, 0) ∧ a.length = k ∧ (a ++ (parJ odd 32).1 :: b).length = l.length := by
  have e := uT_at odd l 0 k hk
  rw [Nat.zero_add] at e
  have hlen := uT_len (k : Int) odd l 0
  rw [e] at hl hlen ⊢
  rw [sp_rows _ (fun t ht => by
    rcases List.mem_append.1 ht with h1 | h1
    · obtain ⟨x, hx, rfl⟩ := List.mem_map.1 h1; exact txt_okLn (h x (List.mem_of_mem_take hx))
    · rcases List.mem_cons.1 h1 with rfl | h2
      · exact ⟨h0, h10, hp⟩
      · obtain ⟨x, hx, rfl⟩ := List.mem_map.1 h2; exact txt_okLn (h x (List.mem_of_mem_drop hx))) hl]
  refine ⟨_, _, by rw [List.map_append, List.map_cons], ?_, ?_⟩
  · simp; omega
  · simp only [List.length_append, List.length_map, List.length_cons] at hlen ⊢
    exact hlen
end Go.Proofs.YtpmhdcmmlkjjmaaGreatDoor
/- same of whatever values, the first no deeper than what is looked at. -/
namespace Go.Proofs.YtpmhdcmmlkjjmaaGreatDoor
open Go.RowKit
mutual
def htV : V → Nat
  | .mk _ _ _ _ l m => max (htL l) (htM m)
def htL : List V → Nat
  | [] => 0
  | x :: t => max (htV x + 1) (htL t)
def htM : List Mem → Nat
  | [] => 0
  | (_, x) :: t => max (htV x + 1) (htM t)
end
end Go.Proofs.YtpmhdcmmlkjjmaaGreatDoor
