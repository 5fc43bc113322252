/- List. -/
import Derived.Test.YtpbejbpimcidjaaSwF
set_option linter.unusedSimpArgs false
set_option linter.unusedVariables false
namespace Go.Proofs.Ytpbejbpimcidjaa
open Go Go.Lib Go.RowKit Go.Maps Go.Sort

set_option maxHeartbeats 4000000 in
theorem past_ok (S : Nat) (rev floor r most : Int) (mb mn pv : Value) (w : World) (h : w.heap[S]? = some (.cells #[.int .i64 rev, .int .i64 floor, mb, mn, pv] 57)) (h0 : 0 ≤ r) (h1 : floor ≤ r) (h2 : r ≤ rev) (h3 : 0 ≤ most) :
    Calls Try.prog 33 #[.pointer (some ⟨S, 0, none⟩), .int .i64 r, .int .i64 most] w fun e w' => e = .returned (.int .i64 0) ∧ w' = w := by
  have c0 : w.cell? ⟨S, 0, none⟩ = some (.int .i64 rev) := by rw [cell_of_block h]; rfl
  have c1 : w.cell? ⟨S, 1, none⟩ = some (.int .i64 floor) := by rw [cell_of_block h]; rfl
  have y0 : ¬ r < 0 := by omega
  have y1 : ¬ r < floor := by omega
  have y2 : ¬ rev < r := by omega
  have y3 : ¬ most < 0 := by omega
  clear h
  go_enter Try.func33, Try.ntmps33
  go_wp2_with fail
  go_ret
  exact ⟨rfl, rfl⟩
theorem asof_now (S : Nat) (rev : Int) (fl mb mn pv : Value) (w : World) (h : w.heap[S]? = some (.cells #[.int .i64 rev, fl, mb, mn, pv] 57)) :
    Calls Try.prog 34 #[.pointer (some ⟨S, 0, none⟩), .int .i64 rev] w fun e w' => e = .returned mn ∧ w' = w := by
  have c0 : w.cell? ⟨S, 0, none⟩ = some (.int .i64 rev) := by rw [cell_of_block h]; rfl
  have c1 : w.cell? ⟨S, 3, none⟩ = some mn := by rw [cell_of_block h]; rfl
  clear h
  go_enter Try.func34, Try.ntmps34
  go_wp2_with fail
  go_ret
  exact ⟨rfl, rfl⟩
/-- an item of a list: its key, its revision, its bytes, where these lie -/
structure Itm where
  key : List UInt8
  r : Int
  d : ByteArray
  g : Nat
  c : Nat
def itc (x : Itm) : List Value := [encStr x.key, .int .i64 x.r, .slice (some ⟨x.g, 0, none⟩) x.d.size x.c]
def its (l : List Itm) : List Value := l.flatMap itc
theorem its_len (l : List Itm) : (its l).length = l.length * 3 := by
  induction l with
  | nil => rfl
  | cons x t ih => unfold its at ih ⊢; rw [List.flatMap_cons, List.length_append, ih]; simp [itc]; omega
theorem its_app (l : List Itm) (x : Itm) : its (l ++ [x]) = its l ++ itc x := by unfold its; rw [List.flatMap_append]; simp
/-- the bytes of an item lie in a block of their own -/
def Dt (w : World) (N : Nat) (x : Itm) : Prop := N ≤ x.g ∧ ∃ fr, w.heap[x.g]? = some (.cells (bytesRow x.d x.c) 5 fr) ∧ fr ≠ (0, 0)
/-- items as the first of the keys, with what the state has there -/
structure Its (w : World) (N : Nat) (D : DataW Unit) (ss : List (List UInt8)) (v : Value) (l : List Itm) : Prop where
  row : w.ownsRow N 88 3 v l.length (its l)
  keys : l.map Itm.key = ss.take l.length
  at_ : ∀ x ∈ l, ∀ z, D.atKey (.string x.key) z = dat x.r x.d
  dt : ∀ x ∈ l, Dt w N x
def LsPost (pre fr : ByteArray) (D : DataW Unit) (most : Nat) (W : World) (e : Ending) (W' : World) : Prop := ∃ (v : Value) (ss : List (List UInt8)) (l : List Itm), e = .returned (.tuple #[v, .int .i64 0]) ∧ KS pre fr D ss ∧ l.length = min most ss.length ∧ Its W' W.heap.size D ss v l ∧ Below W.heap.size W W'
theorem has_key {w : World} {b n : Nat} {D : DataW Unit} {x : List UInt8} (h : w.ownsMap Try.prog 9 oR b n D) (hh : has D (.string x) = true) : keyOf Try.prog 9 (encStr x) = some (.string x) := by
  obtain ⟨es, rfl, hk⟩ := h.keysOf
  rw [has_eq] at hh
  obtain ⟨p, hp, hs⟩ := List.any_eq_true.1 hh
  obtain ⟨v, hv⟩ := hk p hp
  have e : p.1 = .string x := by
    apply Classical.byContradiction
    intro hne
    rw [sameKey_ne hne] at hs
    cases hs
  rw [e] at hv
  obtain ⟨y, rfl, e2, _⟩ := Maps.keyOf_str Try.underlying9 hv
  obtain rfl : x = y := Lit.string.inj e2
  exact hv
theorem at_of_has {D : DataW Unit} {k : Lit} (h : has D k = true) (z z' : DataW Unit) : D.atKey k z = D.atKey k z' := by
  cases D with
  | map es =>
    rw [has_eq] at h
    simp only [DataW.atKey]
    cases hf : es.find? (fun p => p.1.sameKey k) with
    | some p => rfl
    | none =>
      rw [List.find?_eq_none] at hf
      obtain ⟨p, hp, hs⟩ := List.any_eq_true.1 h
      exact absurd hs (hf p hp)
  | _ => cases h
theorem MpV.look {w : World} {v : Value} {n : Nat} {D : DataW Unit} (h : MpV w v n D) {x : List UInt8} (hh : has D (.string x) = true) : ∃ (r : Int) (d : ByteArray), (Instr.lookup 54 v (encStr x) false).run Try.prog w = .ok (.agg #[.int .i64 r, .string d]) w ∧ ∀ z, D.atKey (.string x) z = dat r d := by
  rcases h with ⟨rfl, rfl⟩ | ⟨b, rfl, h⟩
  · cases hh
  · obtain ⟨vv, ps, hrun, hvv⟩ := h.lookup law9 Try.underlying54 (zero51 _) (oR_mk 0 ⟨#[]⟩) (has_key h hh)
    obtain ⟨r, d, rfl, hy⟩ := oR_shape hvv
    exact ⟨r, d, hrun, fun z => (at_of_has hh z _).trans (congrArg Prod.fst hy)⟩
theorem below_all {w w' : World} (b : Below w.heap.size w w') : w.grownBy w' none := ⟨b.os, b.tape, b.output, b.size, fun k hk _ => b.block k hk⟩
theorem Dt.keep {w w' : World} {N : Nat} {x : Itm} (h : Dt w N x) (e : w'.heap[x.g]? = w.heap[x.g]?) : Dt w' N x := by
  obtain ⟨h1, fr, h2, h3⟩ := h
  exact ⟨h1, fr, e.trans h2, h3⟩
theorem Dt.ne {w : World} {N M : Nat} {x : Itm} (h : Dt w N x) {v : Value} {n : Nat} {xs : List Value} (hr : w.ownsRow M 88 3 v n xs) : v.ownBlock ≠ some x.g := by
  obtain ⟨h1, fr, h2, h3⟩ := h
  rcases hr.2 with ⟨rfl, _⟩ | ⟨g, cap, cur, rfl, hb, hg, rest⟩
  · simp [Value.ownBlock]
  · intro e
    have e2 : g = x.g := by simpa [Value.ownBlock] using e
    rw [e2, h2] at hg
    simp only [Option.some.injEq, Obj.cells.injEq] at hg
    exact h3 hg.2.2
/-- one item more -/
theorem Its.step {w w' : World} {N : Nat} {D : DataW Unit} {ss : List (List UInt8)} {v v' : Value} {l : List Itm} (h : Its w N D ss v l) {x : Itm} (hrow : w'.ownsRow N 88 3 v' (l.length + 1) (its l ++ itc x)) (hk : ss[l.length]? = some x.key) (hat : ∀ z, D.atKey (.string x.key) z = dat x.r x.d) (hd : Dt w' N x) (hkeep : ∀ y ∈ l, Dt w' N y) : Its w' N D ss v' (l ++ [x]) := by
  refine ⟨by rw [its_app, List.length_append]; exact hrow, ?_, ?_, ?_⟩
  · rw [List.map_append, h.keys, List.length_append, List.length_singleton, List.take_add_one, hk]
    rfl
  · intro y hy
    rcases List.mem_append.1 hy with hy | hy
    · exact h.at_ y hy
    · rw [List.mem_singleton.1 hy]; exact hat
  · intro y hy
    rcases List.mem_append.1 hy with hy | hy
    · exact hkeep y hy
    · rw [List.mem_singleton.1 hy]; exact hd
theorem info88 : (Try.prog.info? 88).map (fun i => (i.zero, i.size, i.bytes)) = some (some (.agg #[.string ⟨#[]⟩, .int .i64 0, .slice none 0 0]), 3, 48) := by kernel_rfl
set_option maxRecDepth 100000 in
set_option maxHeartbeats 8000000 in
theorem list_any (S : Nat) (rev floor r0 : Int) (mb mn pv : Value) (D : DataW Unit) (pre fr : ByteArray) (most : Nat) (W : World) (hbox : W.heap[S]? = some (.cells #[.int .i64 rev, .int .i64 floor, mb, mn, pv] 57)) (hAs : Calls Try.prog 34 #[.pointer (some ⟨S, 0, none⟩), .int .i64 r0] W fun e W' => (∃ v m, e = .returned v ∧ MpV W' v m D) ∧ Below W.heap.size W W') (h0 : 0 ≤ r0) (h1 : floor ≤ r0) (h2 : r0 ≤ rev) (hmost : most ≤ 1000000) (hsz : Maps.size D ≤ 1000000) :
    Calls Try.prog 27 #[.pointer (some ⟨S, 0, none⟩), .int .i64 r0, .string pre, .string fr, .int .i64 (most : Int)] W (LsPost pre fr D most W) := by
  obtain ⟨i, hi, hz⟩ := Option.map_eq_some_iff.1 info88
  simp only [Prod.mk.injEq] at hz
  obtain ⟨hz0, hz1, hz2⟩ := hz
  have C1 := hmk (past_ok S rev floor r0 most mb mn pv W hbox h0 h1 h2 (by omega))
  have C2 := hmk hAs
  clear hbox hAs
  go_enter Try.func27, Try.ntmps27
  go_wp2_with fail
  refine C1.out.mono ?_
  rintro e W1 ⟨rfl, rfl⟩
  clear C1
  go_wp2_with fail
  refine C2.out.mono ?_
  rintro e W2 ⟨⟨vm, nm, rfl, hmp⟩, b2⟩
  clear C2
  have C3 := hmk (keys_mpv vm nm D pre fr W2 hmp hsz)
  have HMP := hmk hmp
  have B2 := hmk b2
  clear hmp b2
  go_wp2_with fail
  refine C3.out.mono ?_
  rintro e W3 ⟨vk, ss, rfl, hks, hsl, hrow, b3⟩
  clear C3
  have HKS := hmk hks
  have B3 := hmk b3
  rcases hrow.2 with ⟨hnil, hl0⟩ | ⟨g, cap, cur, rfl, hbase, hb, q1, q2, q3, q4⟩
  · have hss : ss = [] := List.length_eq_zero_iff.1 hl0
    subst hss
    obtain rfl := hnil
    have hmin : min (most : Int) 0 = 0 := by omega
    clear hrow hks b3 hsl hl0
    go_wp2_with fail
    refine wp_loop_rounds 1 ?_
    rw [rounds_succ]
    go_wp2_with fail
    go_ret2
    exact ⟨_, [], [], rfl, HKS.out, by simp, ⟨World.ownsRow_nil _ _ 88 3, rfl, by simp, by simp⟩, B2.out.trans (B3.out.mono B2.out.size)⟩
  · have hmn : ∃ m : Nat, m = min most ss.length := ⟨_, rfl⟩
    obtain ⟨m, hm⟩ := hmn
    have hmin : min (most : Int) (ss.length : Int) = (m : Int) := by omega
    have hml : m ≤ ss.length := by omega
    have hmc : m ≤ cap := by omega
    have HM := hmk hm
    clear hm
    have HR := hmk (And.intro hrow (And.intro hbase hb))
    have HNW := hmk (HMP.out.below b3)
    have hgl := lt_of_block hb
    clear hrow hks b3 hbase hb q4
    go_wp2_with fail
    go_loopw [15, 40] (fun e15 e40 wr => ∃ k : Nat, e40 = .int .i64 (k : Int) ∧ k ≤ m ∧ Hid (∃ l, l.length = k ∧ Its wr W3.heap.size D ss e15 l ∧ Below W3.heap.size W3 wr)) (fun _ e40 _ => m - (RowKit.intOf e40).toNat)
    case atStart => exact ⟨0, rfl, by omega, [], rfl, ⟨World.ownsRow_nil _ _ 88 3, rfl, by simp, by simp⟩, Below.refl _ _⟩
    case round =>
      obtain ⟨k, rfl, hkm, HI⟩ := hrel
      by_cases hlt : (k : Int) < (m : Int)
      · obtain ⟨l, hlk, hI, hbw⟩ := HI.out
        have hks2 : k < ss.length := by omega
        have hgx : ss[k]? = some ss[k] := List.getElem?_eq_getElem hks2
        generalize hxe : ss[k] = x at hgx
        have hmem : x ∈ ss := by rw [← hxe]; exact List.getElem_mem _
        have hhas := ((HKS.out.2.1 x).1 hmem).1
        have hg0 := (hbw.block g hgl).trans HR.out.2.2
        have hcx : wr.cell? ⟨g, k, none⟩ = some (encStr x) := by
          have := HR.out.1.cells (g := g) (by simp [Value.ownBlock]) k (encStr x) (by rw [List.getElem?_map, hgx]; rfl)
          rw [Go.WideShapes.add_plain, Nat.zero_add] at this
          exact (World.cell?_of_block (w := W3) (a := ⟨g, k, none⟩) (hbw.block g hgl)).trans this
        have hmw := HNW.out.below hbw
        obtain ⟨r, d, hrun, hat⟩ := hmw.look hhas
        clear hxe hmem
        obtain ⟨c2, V2, hcv, hV2, b2⟩ := conv_any d (wr.alloc (.cells #[.int .i64 r, .string d] 51)) (wr.heap.size + 1) (alloc_size _ _)
        have bV : Below wr.heap.size wr V2 := (one_belowG wr (.cells #[.int .i64 r, .string d] 51)).trans (b2.mono (by rw [alloc_size]; omega))
        have bT := bV.trans ((one_belowG V2 (.cells #[encStr x, .int .i64 r, .slice (some ⟨wr.heap.size + 1, 0, none⟩) d.size c2] 88)).mono bV.size)
        have hT := heap_alloc_new V2 (.cells #[encStr x, .int .i64 r, .slice (some ⟨wr.heap.size + 1, 0, none⟩) d.size c2] 88)
        have hrT := hI.row.kept (below_all bT) (by cases hv : u15.ownBlock <;> simp)
        have hnews : ∀ j u, (itc ⟨x, r, d, wr.heap.size + 1, c2⟩)[j]? = some u → (V2.alloc (.cells #[encStr x, .int .i64 r, .slice (some ⟨wr.heap.size + 1, 0, none⟩) d.size c2] 88)).cell? ((⟨V2.heap.size, 0, none⟩ : Addr).add j) = some u := fun j u hj => by
          rw [Go.WideShapes.add_plain, Nat.zero_add, cell_of_block hT]
          simpa [itc] using hj
        have hone : ∀ u ∈ itc ⟨x, r, d, wr.heap.size + 1, c2⟩, u.oneCell' = true := fun u hu => by
          simp only [itc, List.mem_cons, List.mem_nil_iff, or_false] at hu
          rcases hu with rfl | rfl | rfl <;> rfl
        have HT := hmk hT
        have HRT := hmk hrT
        have HNE := hmk hnews
        have HON := hmk hone
        have BT := hmk bT
        have HV2 := hmk hV2
        have HII := hmk hI
        have HBW := hmk hbw
        have HAT := hmk hat
        have HBV := hmk bV
        have HLK := hmk hlk
        clear hT hrT hnews hone bT b2 hV2 hI hbw hat bV HI hmw hg0 hhas hlk
        go_wp2_with (at_builtin; refine wpList_append_own _ rfl _ _ 74 rfl W3.heap.size 88 i _ 3 48 Try.underlying74 hi hz0 hz1 hz2 rfl (by decide) u15 l.length (its l) rfl HRT.out ⟨_, 0, none⟩ 1 1 (itc ⟨x, r, d, wr.heap.size + 1, c2⟩) rfl rfl HNE.out HON.out (by have := HLK.out; unfold maxLen at *; omega) (by have := HLK.out; omega) (by have := HBW.out.size; have := BT.out.size; omega) ?_; intro v' w3 hown' hg3 hnil3)
        have hbx : Below W3.heap.size W3 (V2.alloc (.cells #[encStr x, .int .i64 r, .slice (some ⟨wr.heap.size + 1, 0, none⟩) d.size c2] 88)) := HBW.out.trans (BT.out.mono HBW.out.size)
        have hkp : ∀ y, Dt (V2.alloc (.cells #[encStr x, .int .i64 r, .slice (some ⟨wr.heap.size + 1, 0, none⟩) d.size c2] 88)) W3.heap.size y → Dt w3 W3.heap.size y := fun y hy => hy.keep (hg3.block y.g (lt_of_block hy.2.choose_spec.1) (fun e => hy.ne HRT.out e.symm))
        have hdx : Dt (V2.alloc (.cells #[encStr x, .int .i64 r, .slice (some ⟨wr.heap.size + 1, 0, none⟩) d.size c2] 88)) W3.heap.size ⟨x, r, d, wr.heap.size + 1, c2⟩ := by
          obtain ⟨fr0, q5, q6⟩ := HV2.out
          exact ⟨by have := HBW.out.size; show W3.heap.size ≤ wr.heap.size + 1; omega, fr0, ((one_belowG V2 _).block _ (lt_of_block q5)).trans q5, q6⟩
        refine ⟨⟨k + 1, congrArg (Value.int .i64) (by omega), by omega, l ++ [⟨x, r, d, wr.heap.size + 1, c2⟩], by rw [List.length_append, HLK.out]; rfl, HII.out.step hown' (by rw [HLK.out]; exact hgx) HAT.out (hkp _ hdx) (fun y hy => hkp y ((HII.out.dt y hy).keep (BT.out.block y.g (lt_of_block (HII.out.dt y hy).2.choose_spec.1)))), hbx.grown hg3 hbx.size (fun j hj => (HRT.out.lt j hj).1)⟩, ?_⟩
        simp only [RowKit.intOf]
        omega
      · go_wp2_with fail
        (try simp only [Exit.inBlock, Exit.then])
        go_ret2
        obtain ⟨l, hlk, hI, hbw⟩ := HI.out
        refine ⟨_, ss, l, rfl, HKS.out, by rw [hlk, ← HM.out]; omega, ⟨?_, hI.keys, hI.at_, fun y hy => ?_⟩, B2.out.trans ((B3.out.trans (hbw.mono B3.out.size)).mono B2.out.size)⟩
        · exact ⟨hI.row.1, hI.row.2.imp id (fun ⟨g, cap, cur, q1, q2, q3⟩ => ⟨g, cap, cur, q1, by have := B3.out.size; have := B2.out.size; omega, q3⟩)⟩
        · obtain ⟨q1, q2⟩ := hI.dt y hy
          exact ⟨by have := B3.out.size; have := B2.out.size; omega, q2⟩
set_option maxHeartbeats 4000000 in
theorem past_no (S : Nat) (rev floor r most x : Int) (mb mn pv : Value) (w : World) (h : w.heap[S]? = some (.cells #[.int .i64 rev, .int .i64 floor, mb, mn, pv] 57)) (h3 : 0 ≤ most) (hx : (r < 0 ∧ x = 2) ∨ (0 ≤ r ∧ r < floor ∧ x = 195) ∨ (0 ≤ r ∧ floor ≤ r ∧ rev < r ∧ x = 196)) :
    Calls Try.prog 33 #[.pointer (some ⟨S, 0, none⟩), .int .i64 r, .int .i64 most] w fun e w' => e = .returned (.int .i64 x) ∧ w' = w := by
  have c0 : w.cell? ⟨S, 0, none⟩ = some (.int .i64 rev) := by rw [cell_of_block h]; rfl
  have c1 : w.cell? ⟨S, 1, none⟩ = some (.int .i64 floor) := by rw [cell_of_block h]; rfl
  have y3 : ¬ most < 0 := by omega
  clear h
  rcases hx with ⟨q1, rfl⟩ | ⟨q1, q2, rfl⟩ | ⟨q1, q2, q3, rfl⟩
  · go_enter Try.func33, Try.ntmps33
    go_wp2_with fail
    go_ret
    exact ⟨rfl, rfl⟩
  · have y0 : ¬ r < 0 := by omega
    go_enter Try.func33, Try.ntmps33
    go_wp2_with fail
    go_ret
    exact ⟨rfl, rfl⟩
  · have y0 : ¬ r < 0 := by omega
    have y1 : ¬ r < floor := by omega
    go_enter Try.func33, Try.ntmps33
    go_wp2_with fail
    go_ret
    exact ⟨rfl, rfl⟩
set_option maxHeartbeats 4000000 in
theorem list_no (S : Nat) (r most x : Int) (pre fr : ByteArray) (W : World) (hx : ¬ x = 0) (hp : Calls Try.prog 33 #[.pointer (some ⟨S, 0, none⟩), .int .i64 r, .int .i64 most] W fun e w' => e = .returned (.int .i64 x) ∧ w' = W) :
    Calls Try.prog 27 #[.pointer (some ⟨S, 0, none⟩), .int .i64 r, .string pre, .string fr, .int .i64 most] W fun e W' => e = .returned (.tuple #[.slice none 0 0, .int .i64 x]) ∧ W' = W := by
  have C1 := hmk hp
  clear hp
  go_enter Try.func27, Try.ntmps27
  go_wp2_with fail
  refine C1.out.mono ?_
  rintro e W1 ⟨rfl, rfl⟩
  clear C1
  go_wp2_with fail
  go_ret2
  exact ⟨rfl, rfl⟩
set_option maxHeartbeats 4000000 in
theorem events_no (S : Nat) (r most x : Int) (W : World) (hx : ¬ x = 0) (hp : Calls Try.prog 33 #[.pointer (some ⟨S, 0, none⟩), .int .i64 r, .int .i64 most] W fun e w' => e = .returned (.int .i64 x) ∧ w' = W) :
    Calls Try.prog 29 #[.pointer (some ⟨S, 0, none⟩), .int .i64 r, .int .i64 most] W fun e W' => e = .returned (.tuple #[.slice none 0 0, .int .i64 x]) ∧ W' = W := by
  have C1 := hmk hp
  clear hp
  go_enter Try.func29, Try.ntmps29
  go_wp2_with fail
  refine C1.out.mono ?_
  rintro e W1 ⟨rfl, rfl⟩
  clear C1
  go_wp2_with fail
  go_ret2
  exact ⟨rfl, rfl⟩
end Go.Proofs.Ytpbejbpimcidjaa
