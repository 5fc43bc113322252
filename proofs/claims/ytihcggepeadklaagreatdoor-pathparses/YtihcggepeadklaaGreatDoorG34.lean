/- joined: BckQ DcmA DcmB DcmC -/
import Derived.Test.YtihcggepeadklaaGreatDoorG33
import Derived.Deep.DeepCutAuto
/- Texts there and back: scalars, members, elements, paths. -/
set_option linter.unusedSimpArgs false
set_option linter.unusedVariables false
namespace Go.Proofs.YtihcggepeadklaaGreatDoor
open Go.RowKit Go.Lib
/-- no byte of a number stands here -/
def stopD : List UInt8 → Prop
  | [] => True
  | c :: _ => minDig.contains c = false
theorem run_back (a l t : List UInt8) (h : ∀ c ∈ l, minDig.contains c = true) (ht : stopD t) : runT (a ++ (l ++ t)) a.length = l := by
  unfold runT
  rw [List.drop_left, List.takeWhile_append_of_pos h]
  cases t with
  | nil => simp
  | cons c t =>
    have ht' : minDig.contains c = false := ht
    rw [List.takeWhile_cons, if_neg (by rw [ht']; decide), List.append_nil]
theorem tk_front (a t : List UInt8) (c d : UInt8) (r p : List UInt8) (h : c ≠ d) : tkB (a ++ (c :: r ++ t)) a.length (d :: p) = false := by
  rw [tk_at, List.cons_append, hp_no _ _ h]
theorem itoa_head (i : Int) : ∃ c r, itoa i = c :: r ∧ c ≠ 116 ∧ c ≠ 102 ∧ c ≠ 34 := by
  have hs := itoa_set i
  have hk : ∀ c : UInt8, minDig.contains c = true → c ≠ 116 ∧ c ≠ 102 ∧ c ≠ 34 := by
    intro c hc
    refine ⟨?_, ?_, ?_⟩ <;> (rintro rfl; revert hc; decide)
  cases h : itoa i with
  | nil =>
    exfalso
    unfold itoa at h
    split at h
    · cases h
    · exact dec_ne _ h
  | cons c r => exact ⟨c, r, rfl, hk c (hs c (by rw [h]; simp))⟩
theorem sca_back (a : List UInt8) {v : V} (t : List UInt8) (h : sizS v = true) (hi : in64V v) (ht : stopD t) : scaF (a ++ (svT v ++ t)) a.length = some (v, a.length + (svT v).length) := by
  rcases sca_cases h with ⟨b, rfl⟩ | ⟨i, rfl⟩ | ⟨s, hv, rfl⟩
  · cases b with
    | true =>
      have e : svT (V.mk 1 true 0 ⟨#[]⟩ [] []) = [116, 114, 117, 101] := by rw [svT, scT, if_pos rfl, bolT, if_pos rfl]
      rw [e, scaF, if_pos (by rw [tk_at]; exact hp_yes _ _)]; rfl
    | false =>
      have e : svT (V.mk 1 false 0 ⟨#[]⟩ [] []) = [102, 97, 108, 115, 101] := by rw [svT, scT, if_pos rfl, bolT, if_neg (by decide)]
      rw [e, scaF, if_neg (by rw [tk_front _ _ _ _ _ _ (by decide)]; decide), if_pos (by rw [tk_at]; exact hp_yes _ _)]; rfl
  · have e : svT (V.mk 2 false i ⟨#[]⟩ [] []) = itoa i := by rw [svT, scT, if_neg (by decide), if_pos rfl]
    obtain ⟨c, r, hc, h1, h2, h3⟩ := itoa_head i
    have hr := run_back a (itoa i) t (itoa_set i) ht
    have hp := pi_itoa i hi
    rw [e, scaF, intF, hr, hp]
    rw [hc]
    rw [if_neg (by rw [tk_front _ _ _ _ _ _ h1]; decide), if_neg (by rw [tk_front _ _ _ _ _ _ h2]; decide), if_neg (by rw [tk_front _ _ _ _ _ _ h3]; decide)]
  · have e : svT (V.mk 3 false 0 s [] []) = Q.qt s.data.toList := by rw [svT, scT, if_neg (by decide), if_neg (by decide)]
    have hq := quo_back a s.data.toList t hv
    have hb : (⟨s.data.toList.toArray⟩ : ByteArray) = s := by simp
    obtain ⟨r, hr⟩ : ∃ r, Q.qt s.data.toList = 34 :: r := ⟨_, rfl⟩
    rw [e, scaF, hq]
    rw [hr]
    rw [if_neg (by rw [tk_front _ _ _ _ _ _ (by decide)]; decide), if_neg (by rw [tk_front _ _ _ _ _ _ (by decide)]; decide), if_pos (by rw [tk_at]; exact hp_yes [34] (r ++ t))]
    rw [Option.map_some, hb]
def GoodM (x : Mem) : Prop := utfB x.1 = true ∧ sizS x.2 = true ∧ in64V x.2
theorem mem_back (a : List UInt8) {x : Mem} (t : List UInt8) (h : GoodM x) (ht : stopD t) : memF (a ++ (memT x ++ t)) a.length = some (x, a.length + (memT x).length) := by
  obtain ⟨n, v⟩ := x
  have e1 : a ++ (memT (n, v) ++ t) = a ++ (nmT n.data.toList ++ (61 :: (svT v ++ t))) := by simp [memT]
  have e2 : a ++ (nmT n.data.toList ++ (61 :: (svT v ++ t))) = (a ++ nmT n.data.toList) ++ (61 :: (svT v ++ t)) := by simp
  have e3 : a ++ (nmT n.data.toList ++ (61 :: (svT v ++ t))) = (a ++ nmT n.data.toList ++ [61]) ++ (svT v ++ t) := by simp
  have l2 : a.length + (nmT n.data.toList).length = (a ++ nmT n.data.toList).length := by simp
  have l3 : a.length + (nmT n.data.toList).length + 1 = (a ++ nmT n.data.toList ++ [61]).length := by simp [Nat.add_assoc]
  have hn := nam_back a n (61 :: (svT v ++ t)) h.1 (show okR 1 61 = false by decide)
  have htk : tkB (a ++ (nmT n.data.toList ++ (61 :: (svT v ++ t)))) (a.length + (nmT n.data.toList).length) [61] = true := by
    rw [e2, l2, tk_at]; exact hp_yes [61] _
  have hs := sca_back (a ++ nmT n.data.toList ++ [61]) (v := v) t h.2.1 h.2.2 ht
  rw [← e3, ← l3] at hs
  rw [e1, memF, hn]
  dsimp only
  rw [if_pos htk, hs, Option.map_some]
  have : a.length + (memT (n, v)).length = a.length + (nmT n.data.toList).length + 1 + (svT v).length := by simp [memT]; omega
  rw [this]
theorem key_back : ∀ (l : List Mem) (n : Nat) (a : List UInt8) (acc : List Mem) (t : List UInt8), 0 < l.length → l.length ≤ n → (∀ x ∈ l, GoodM x) → keyF (a ++ (kyV l ++ 93 :: t)) n a.length acc = some (acc ++ l, a.length + (kyV l).length + 1)
  | [], n, a, acc, t, h0, _, _ => by simp at h0
  | x :: l, 0, a, acc, t, _, h1, _ => by simp at h1
  | [x], n + 1, a, acc, t, _, _, hg => by
    have hm := mem_back a (93 :: t) (hg x (by simp)) (show minDig.contains 93 = false by decide)
    have e : kyV [x] = memT x := by simp [kyV, kyT]
    have htk : tkB (a ++ (memT x ++ 93 :: t)) (a.length + (memT x).length) [93] = true := by
      rw [show a ++ (memT x ++ 93 :: t) = (a ++ memT x) ++ 93 :: t by simp, show a.length + (memT x).length = (a ++ memT x).length by simp, tk_at]; exact hp_yes [93] _
    rw [e, keyF, hm]
    dsimp only
    rw [if_pos htk]
  | x :: y :: l, n + 1, a, acc, t, _, h1, hg => by
    have e : kyV (x :: y :: l) = memT x ++ 44 :: kyV (y :: l) := by simp [kyV, kyT]
    have hm := mem_back a (44 :: (kyV (y :: l) ++ 93 :: t)) (hg x (by simp)) (show minDig.contains 44 = false by decide)
    have e0 : a ++ (kyV (x :: y :: l) ++ 93 :: t) = a ++ (memT x ++ 44 :: (kyV (y :: l) ++ 93 :: t)) := by rw [e]; simp
    have e1 : a ++ (memT x ++ 44 :: (kyV (y :: l) ++ 93 :: t)) = (a ++ memT x) ++ 44 :: (kyV (y :: l) ++ 93 :: t) := by simp
    have e2 : a ++ (memT x ++ 44 :: (kyV (y :: l) ++ 93 :: t)) = (a ++ memT x ++ [44]) ++ (kyV (y :: l) ++ 93 :: t) := by simp
    have l1 : a.length + (memT x).length = (a ++ memT x).length := by simp
    have l2 : a.length + (memT x).length + 1 = (a ++ memT x ++ [44]).length := by simp [Nat.add_assoc]
    have t1 : tkB (a ++ (memT x ++ 44 :: (kyV (y :: l) ++ 93 :: t))) (a.length + (memT x).length) [93] = false := by
      rw [e1, l1, tk_at, hp_no _ _ (by decide)]
    have t2 : tkB (a ++ (memT x ++ 44 :: (kyV (y :: l) ++ 93 :: t))) (a.length + (memT x).length) [44] = true := by
      rw [e1, l1, tk_at]; exact hp_yes [44] _
    have ih := key_back (y :: l) n (a ++ memT x ++ [44]) (acc ++ [x]) t (by simp) (by simpa using h1) (fun z hz => hg z (by simp [List.mem_cons.1 hz]))
    rw [← e2, ← l2] at ih
    rw [e0, keyF, hm]
    dsimp only
    rw [if_neg (by rw [t1]; decide), if_pos t2, ih]
    have e5 : acc ++ [x] ++ y :: l = acc ++ x :: y :: l := by simp
    rw [e5, e]
    simp only [List.length_append, List.length_cons]
    congr 2
    omega
theorem in64V0 : in64V nilW := In64.zero
theorem scaF_in {l : List UInt8} {k : Nat} {v : V} {k1 : Nat} (h : scaF l k = some (v, k1)) : in64V v := by
  unfold scaF at h
  split at h
  · have e := congrArg Prod.fst (Option.some.inj h)
    subst e; exact In64.zero
  · split at h
    · have e := congrArg Prod.fst (Option.some.inj h)
      subst e; exact In64.zero
    · split at h
      · cases hq : quoF l k with
        | none => rw [hq] at h; cases h
        | some y =>
          rw [hq] at h
          have e := congrArg Prod.fst (Option.some.inj h)
          subst e; exact In64.zero
      · unfold intF at h
        split at h
        · rename_i v' hv
          have e := congrArg Prod.fst (Option.some.inj h)
          subst e
          exact parse_in64 hv
        · cases h
theorem memF_in {l : List UInt8} {k : Nat} {m : Mem} {k1 : Nat} (h : memF l k = some (m, k1)) : in64V m.2 := by
  unfold memF at h
  split at h
  · cases h
  · rename_i n k2 hn
    split at h
    · cases hq : scaF l (k2 + 1) with
      | none => rw [hq] at h; cases h
      | some y =>
        rw [hq] at h
        have e := congrArg Prod.fst (Option.some.inj h)
        have h1 := scaF_in (v := y.1) (k1 := y.2) hq
        subst e
        exact h1
    · cases h
theorem keyF_in {l : List UInt8} : ∀ (n k : Nat) (acc m : List Mem) (k1 : Nat), (∀ x ∈ acc, in64V x.2) → keyF l n k acc = some (m, k1) → ∀ x ∈ m, in64V x.2
  | 0, k, acc, m, k1, _, h => by cases h
  | n + 1, k, acc, m, k1, ha, h => by
    unfold keyF at h
    split at h
    · cases h
    · rename_i x k2 hx
      have hw := memF_in hx
      have ha' : ∀ y ∈ acc ++ [x], in64V y.2 := by
        intro y hy
        rcases List.mem_append.1 hy with hy | hy
        · exact ha y hy
        · rw [List.mem_singleton] at hy; rw [hy]; exact hw
      split at h
      · have e := congrArg Prod.fst (Option.some.inj h)
        dsimp only at e
        rw [← e]; exact ha'
      · split at h
        · exact keyF_in n (k2 + 1) (acc ++ [x]) m k1 ha' h
        · cases h
theorem elmF_in {l : List UInt8} {k : Nat} {x : El} {k1 : Nat} (h : elmF l k = some (x, k1)) : in64E x := by
  unfold elmF at h
  split at h
  · cases hq : namF l (k + 1) with
    | none => rw [hq] at h; cases h
    | some y =>
      rw [hq] at h
      have e := congrArg Prod.fst (Option.some.inj h)
      subst e
      exact ⟨in64V0, fun x hx => by simp at hx⟩
  · split at h
    · split at h
      · cases h
      · rename_i v k2 hv
        split at h
        · have e := congrArg Prod.fst (Option.some.inj h)
          subst e
          exact ⟨scaF_in hv, fun x hx => by simp at hx⟩
        · cases h
    · split at h
      · cases hq : keyF l 8 (k + 1) [] with
        | none => rw [hq] at h; cases h
        | some y =>
          rw [hq] at h
          have e := congrArg Prod.fst (Option.some.inj h)
          have h1 := keyF_in 8 (k + 1) [] y.1 y.2 (by simp) hq
          subst e
          exact ⟨in64V0, h1⟩
      · cases h
end Go.Proofs.YtihcggepeadklaaGreatDoor
/- The document's reader of values, over words and numbers alone: numeric, fail, next. -/
namespace Go.Proofs.YtihcggepeadklaaGreatDoor
open Go.RowKit Go.Lib
/-- may the byte be one of a number? -/
def numB (r : Int) : Bool := digR r || (decide (r = 45) || (decide (r = 43) || (decide (r = 46) || (decide (r = 101) || decide (r = 69)))))
theorem digR_no {r : Int} (h : ¬ (48 ≤ r ∧ r ≤ 57)) : digR r = false := by
  unfold digR
  by_cases a : 48 ≤ r
  · rw [decide_eq_true a, decide_eq_false (fun b => h ⟨a, b⟩)]; rfl
  · rw [decide_eq_false a]; rfl
set_option maxHeartbeats 1000000 in
theorem numeric_any (r : Int) (w : World) : Calls Tryz.prog 141 #[.int .u8 r] w fun e w' => e = .returned (.bool (numB r)) ∧ w' = w := by
  by_cases a : 48 ≤ r
  · by_cases b : r ≤ 57
    · rw [show numB r = true by unfold numB digR; rw [decide_eq_true a, decide_eq_true b]; rfl]
      go_enter Tryz.func141, Tryz.ntmps141
      go_wp2
      go_ret
      exact ⟨rfl, rfl⟩
    · have hD : digR r = false := digR_no (fun h => b h.2)
      have y45 : (r == 45) = false := by rw [beq_eq_false_iff_ne]; omega
      have y43 : (r == 43) = false := by rw [beq_eq_false_iff_ne]; omega
      have y46 : (r == 46) = false := by rw [beq_eq_false_iff_ne]; omega
      by_cases h101 : r = 101
      · subst h101
        clear hD y45 y43 y46
        rw [show numB 101 = true by decide]
        go_enter Tryz.func141, Tryz.ntmps141
        go_wp2
        go_ret
        exact ⟨rfl, rfl⟩
      · by_cases h69 : r = 69
        · subst h69
          clear hD y45 y43 y46
          rw [show numB 69 = true by decide]
          go_enter Tryz.func141, Tryz.ntmps141
          go_wp2
          go_ret
          exact ⟨rfl, rfl⟩
        · have y101 : (r == 101) = false := by rw [beq_eq_false_iff_ne]; exact h101
          have y69 : (r == 69) = false := by rw [beq_eq_false_iff_ne]; exact h69
          rw [show numB r = false by unfold numB; rw [hD, decide_eq_false (by omega), decide_eq_false (by omega), decide_eq_false (by omega), decide_eq_false h101, decide_eq_false h69]; rfl]
          clear hD h101 h69
          go_enter Tryz.func141, Tryz.ntmps141
          go_wp2
          go_ret
          exact ⟨rfl, rfl⟩
  · have hD : digR r = false := digR_no (fun h => a h.1)
    by_cases h45 : r = 45
    · subst h45
      clear hD
      rw [show numB 45 = true by decide]
      go_enter Tryz.func141, Tryz.ntmps141
      go_wp2
      go_ret
      exact ⟨rfl, rfl⟩
    by_cases h43 : r = 43
    · subst h43
      clear hD
      rw [show numB 43 = true by decide]
      go_enter Tryz.func141, Tryz.ntmps141
      go_wp2
      go_ret
      exact ⟨rfl, rfl⟩
    by_cases h46 : r = 46
    · subst h46
      clear hD
      rw [show numB 46 = true by decide]
      go_enter Tryz.func141, Tryz.ntmps141
      go_wp2
      go_ret
      exact ⟨rfl, rfl⟩
    have y45 : (r == 45) = false := by rw [beq_eq_false_iff_ne]; exact h45
    have y43 : (r == 43) = false := by rw [beq_eq_false_iff_ne]; exact h43
    have y46 : (r == 46) = false := by rw [beq_eq_false_iff_ne]; exact h46
    have y101 : (r == 101) = false := by rw [beq_eq_false_iff_ne]; omega
    have y69 : (r == 69) = false := by rw [beq_eq_false_iff_ne]; omega
    rw [show numB r = false by unfold numB; rw [hD, decide_eq_false h45, decide_eq_false h43, decide_eq_false h46, decide_eq_false (by omega), decide_eq_false (by omega)]; rfl]
    clear hD h45 h43 h46
    go_enter Tryz.func141, Tryz.ntmps141
    go_wp2
    go_ret
    exact ⟨rfl, rfl⟩
/-- the reader's box -/
def RB (g : Nat) (s : ByteArray) (k nd : Nat) (er bad : Int) (w : World) : Prop := w.heap[g]? = some (.cells #[.string s, .int .i64 (k : Int), .int .i64 (nd : Int), .int .i64 0, .int .i64 er, .int .i64 bad] 156 (0, 0))
theorem RB.lt {g : Nat} {s : ByteArray} {k nd : Nat} {er bad : Int} {w : World} (h : RB g s k nd er bad w) : g < w.heap.size := by
  rcases Nat.lt_or_ge g w.heap.size with h' | h'
  · exact h'
  · unfold RB at h; rw [Array.getElem?_eq_none h'] at h; cases h
theorem RB.c0 {g : Nat} {s : ByteArray} {k nd : Nat} {er bad : Int} {w : World} (h : RB g s k nd er bad w) : w.cell? ⟨g, 0, none⟩ = some (.string s) := by rw [cell_of_block h]; rfl
theorem RB.c1 {g : Nat} {s : ByteArray} {k nd : Nat} {er bad : Int} {w : World} (h : RB g s k nd er bad w) : w.cell? ⟨g, 1, none⟩ = some (.int .i64 (k : Int)) := by rw [cell_of_block h]; rfl
theorem RB.c2 {g : Nat} {s : ByteArray} {k nd : Nat} {er bad : Int} {w : World} (h : RB g s k nd er bad w) : w.cell? ⟨g, 2, none⟩ = some (.int .i64 (nd : Int)) := by rw [cell_of_block h]; rfl
theorem RB.c3 {g : Nat} {s : ByteArray} {k nd : Nat} {er bad : Int} {w : World} (h : RB g s k nd er bad w) : w.cell? ⟨g, 3, none⟩ = some (.int .i64 0) := by rw [cell_of_block h]; rfl
theorem RB.c4 {g : Nat} {s : ByteArray} {k nd : Nat} {er bad : Int} {w : World} (h : RB g s k nd er bad w) : w.cell? ⟨g, 4, none⟩ = some (.int .i64 er) := by rw [cell_of_block h]; rfl
theorem RB.c5 {g : Nat} {s : ByteArray} {k nd : Nat} {er bad : Int} {w : World} (h : RB g s k nd er bad w) : w.cell? ⟨g, 5, none⟩ = some (.int .i64 bad) := by rw [cell_of_block h]; rfl
theorem RB.fz {g : Nat} {s : ByteArray} {k nd : Nat} {er bad : Int} {w : World} (h : RB g s k nd er bad w) (o : Nat) : w.frozen? ⟨g, o, none⟩ = false := frozen_of_block h o
theorem RB.put1 {g : Nat} {s : ByteArray} {k nd : Nat} {er bad : Int} {w : World} (h : RB g s k nd er bad w) (n : Nat) (z : Int) (hz : z = n) : RB g s n nd er bad (w.setCell ⟨g, 1, none⟩ (.int .i64 z)) := by
  subst hz
  unfold RB at *
  rw [set_block h]
  rfl
theorem RB.put2 {g : Nat} {s : ByteArray} {k nd : Nat} {er bad : Int} {w : World} (h : RB g s k nd er bad w) (n : Nat) (z : Int) (hz : z = n) : RB g s k n er bad (w.setCell ⟨g, 2, none⟩ (.int .i64 z)) := by
  subst hz
  unfold RB at *
  rw [set_block h]
  rfl
theorem RB.put4 {g : Nat} {s : ByteArray} {k nd : Nat} {er bad : Int} {w : World} (h : RB g s k nd er bad w) (z : Int) : RB g s k nd z bad (w.setCell ⟨g, 4, none⟩ (.int .i64 z)) := by
  unfold RB at *
  rw [set_block h]
  rfl
theorem RB.put5 {g : Nat} {s : ByteArray} {k nd : Nat} {er bad : Int} {w : World} (h : RB g s k nd er bad w) (z : Int) : RB g s k nd er z (w.setCell ⟨g, 5, none⟩ (.int .i64 z)) := by
  unfold RB at *
  rw [set_block h]
  rfl
theorem RB.drewN {g : Nat} {s : ByteArray} {k nd : Nat} {er bad : Int} {w : World} (h : RB g s k nd er bad w) (q : Nat) : RB g s k nd er bad (w.drewN q) := by
  induction q with
  | zero => exact h
  | succ q ih => exact ih
theorem RB.keep {g : Nat} {s : ByteArray} {k nd : Nat} {er bad : Int} {w w' : World} (h : RB g s k nd er bad w) (hb : Below w.heap.size w w') : RB g s k nd er bad w' := (hb.block g h.lt).trans h
set_option maxHeartbeats 1000000 in
/-- the first fault is set down -/
theorem dfail_any (g : Nat) (s : ByteArray) (k nd : Nat) (bad at_ er : Int) (w : World) (h : RB g s k nd 0 bad w) :
    Calls Tryz.prog 123 #[.pointer (some ⟨g, 0, none⟩), .int .i64 at_, .int .i64 er] w fun e w' => e = .returned (.tuple #[]) ∧ RB g s k nd er at_ w' ∧ w.grownBy w' (some g) := by
  have c4 := h.c4
  have f4 := h.fz 4
  have f5 := (h.put4 er).fz 5
  have c5 := (h.put4 er).c5
  have HH := hmk h
  clear h
  go_enter Tryz.func123, Tryz.ntmps123
  go_wp2
  go_end0
  exact ⟨rfl, (HH.out.put4 er).put5 at_, grown_set (grown_set (World.grownBy.refl _ _) _ _) _ _⟩
end Go.Proofs.YtihcggepeadklaaGreatDoor
/- The document's reader: blanks where there are none, next. -/
namespace Go.Proofs.YtihcggepeadklaaGreatDoor
open Go.RowKit Go.Lib
def blkB (r : Int) : Bool := decide (r = 32) || (decide (r = 9) || (decide (r = 10) || decide (r = 13)))
set_option maxHeartbeats 4000000 in
set_option maxRecDepth 100000 in
/-- no blank stands there -/
theorem dblanks_none (g : Nat) (s : ByteArray) (k nd : Nat) (er bad : Int) (w : World) (h : RB g s k nd er bad w) (hk : k ≤ s.size) (hb : ∀ h : k < s.size, blkB ((s[k]'h).toNat : Int) = false) :
    Calls Tryz.prog 122 #[.pointer (some ⟨g, 0, none⟩)] w fun e w' => e = .returned (.tuple #[]) ∧ RB g s k nd er bad w' ∧ w.grownBy w' (some g) := by
  have HH := hmk h
  clear h
  go_enter Tryz.func122, Tryz.ntmps122
  go_wp2_with fail
  go_loopw [66] (fun p wr => RB g s k nd er bad wr ∧ w.grownBy wr (some g)) (fun _ _ => 0)
  case atStart => exact ⟨HH.out, World.grownBy.refl _ _⟩
  case round =>
    obtain ⟨hr, gr⟩ := hrel
    have c0 := hr.c0
    have c1 := hr.c1
    have HR := hmk hr
    have HG := hmk gr
    clear hr gr HH
    by_cases hlt : k < s.size
    · have y1 : (k : Int) < s.size := by omega
      have hb' := hb hlt
      clear hb
      unfold blkB at hb'
      simp only [Bool.or_eq_false_iff, decide_eq_false_iff_not] at hb'
      obtain ⟨n32, n9, n10, n13⟩ := hb'
      have y32 : (((s[k]'hlt).toNat : Int) == 32) = false := by rw [beq_eq_false_iff_ne]; exact n32
      have y9 : (((s[k]'hlt).toNat : Int) == 9) = false := by rw [beq_eq_false_iff_ne]; exact n9
      have y10 : (((s[k]'hlt).toNat : Int) == 10) = false := by rw [beq_eq_false_iff_ne]; exact n10
      have y13 : (((s[k]'hlt).toNat : Int) == 13) = false := by rw [beq_eq_false_iff_ne]; exact n13
      clear n32 n9 n10 n13
      go_wp2_with fail
      go_quiet (fail)
      go_wp2_with fail
      go_end0
      exact ⟨rfl, HR.out.drewN nq, grown_drewN HG.out nq⟩
    · have y1 : ¬ (k : Int) < s.size := by omega
      clear hb
      go_wp2_with fail
      go_quiet (fail)
      go_wp2_with fail
      go_end0
      exact ⟨rfl, HR.out.drewN nq, grown_drewN HG.out nq⟩
end Go.Proofs.YtihcggepeadklaaGreatDoor
/- The document's reader: next, word. -/
namespace Go.Proofs.YtihcggepeadklaaGreatDoor
open Go.RowKit Go.Lib
set_option maxHeartbeats 600000 in
set_option maxRecDepth 100000 in
theorem dnext_yes (g : Nat) (s : ByteArray) (k nd : Nat) (er bad : Int) (w : World) (h : RB g s k nd er bad w) (hlt : k < s.size) (hb : blkB ((s[k]'hlt).toNat : Int) = false) :
    Calls Tryz.prog 140 #[.pointer (some ⟨g, 0, none⟩)] w fun e w' => e = .returned (.int .u8 ((s[k]'hlt).toNat : Int)) ∧ RB g s k nd er bad w' ∧ w.grownBy w' (some g) := by
  have CB := hmk (dblanks_none g s k nd er bad w h (Nat.le_of_lt hlt) (fun _ => hb))
  have y1 : ((k : Int) == (s.size : Int)) = false := by rw [beq_eq_false_iff_ne]; omega
  have y2 : (k : Int) < s.size := by omega
  clear h hb
  go_enter Tryz.func140, Tryz.ntmps140
  go_wp2_with fail
  refine CB.out.mono ?_
  rintro e w1 ⟨rfl, h1, g1⟩
  have c0 := h1.c0
  have c1 := h1.c1
  have HR := hmk h1
  have HG := hmk g1
  clear CB h1 g1
  go_wp2_with fail
  go_quiet (fail)
  go_wp2_with fail
  have c0 : (w1.drewN nq).cell? ⟨g, 0, none⟩ = some (.string s) := (HR.out.drewN nq).c0
  have c1 : (w1.drewN nq).cell? ⟨g, 1, none⟩ = some (.int .i64 (k : Int)) := (HR.out.drewN nq).c1
  have HR2 := hmk (HR.out.drewN nq)
  have HG2 := hmk (grown_drewN HG.out nq)
  generalize w1.drewN nq = w2 at *
  go_quiet (fail)
  go_wp2_with fail
  go_ret
  exact ⟨rfl, HR2.out.drewN nq, grown_drewN HG2.out nq⟩
set_option maxHeartbeats 600000 in
set_option maxRecDepth 100000 in
theorem dnext_end (g : Nat) (s : ByteArray) (nd : Nat) (bad : Int) (w : World) (h : RB g s s.size nd 0 bad w) :
    Calls Tryz.prog 140 #[.pointer (some ⟨g, 0, none⟩)] w fun e w' => e = .returned (.int .u8 0) ∧ RB g s s.size nd 31 (s.size : Int) w' ∧ w.grownBy w' (some g) := by
  have CB := hmk (dblanks_none g s s.size nd 0 bad w h (Nat.le_refl _) (fun h => absurd h (Nat.lt_irrefl _)))
  clear h
  go_enter Tryz.func140, Tryz.ntmps140
  go_wp2_with fail
  refine CB.out.mono ?_
  rintro e w1 ⟨rfl, h1, g1⟩
  have c0 := h1.c0
  have c1 := h1.c1
  have HR := hmk h1
  have HG := hmk g1
  clear CB h1 g1
  go_wp2_with fail
  go_quiet (fail)
  have c1 : (w1.drewN nq).cell? ⟨g, 1, none⟩ = some (.int .i64 (s.size : Int)) := (HR.out.drewN nq).c1
  have CF := hmk (dfail_any g s s.size nd bad (s.size : Int) 31 _ (HR.out.drewN nq))
  have HG2 := hmk (grown_drewN HG.out nq)
  generalize w1.drewN nq = w2 at *
  go_wp2_with fail
  refine CF.out.mono ?_
  rintro e w3 ⟨rfl, h3, g3⟩
  have HR3 := hmk h3
  have HG3 := hmk (grown_trans HG2.out g3)
  clear h3 g3
  go_wp2_with fail
  go_ret
  exact ⟨rfl, HR3.out, HG3.out⟩
end Go.Proofs.YtihcggepeadklaaGreatDoor
