import Derived.Test.YtagjbphadakifaaDoorTrmG
/- shaped. -/
set_option linter.unusedSimpArgs false
set_option linter.unusedVariables false
namespace Go.Proofs.YtagjbphadakifaaDoor
open Go.RowKit Go.Lib
/-- a term in memory, with no marks asked -/
def EF (x : Trm) (w : World) (S : Nat → Prop) (cs : List Value) : Prop := Trm.lies false w S x cs
theorem keepF : KeepE EF := by
  intro x w w' S S' cs hw hS h
  exact Trm.lies_keep (fun h => h) h hw hS
abbrev OwnF := OwnR EF 50 3
theorem head_nilS : Headed none 0 0 0 0 := ⟨Nat.le_refl _, by decide, .inl rfl, fun _ => rfl⟩
theorem own_terms {w w' : World} {SM : Nat → Prop} {v : Value} {l : List Trm} (h : OwnF w' w.heap.size SM v l) : ∃ a c b o, v = .slice a l.length c ∧ Headed a l.length c b o ∧ liesT false w' (New w w') l b o := by
  obtain ⟨a, c, rfl⟩ := own_slice h
  cases l with
  | nil =>
    have h' := h
    obtain ⟨⟨xs, h1, _⟩, _⟩ := h'
    rcases h1.2 with ⟨e, e2⟩ | ⟨g, cap, cur, e, _⟩
    · simp only [Value.slice.injEq] at e
      obtain ⟨rfl, _, rfl⟩ := e
      exact ⟨none, 0, 0, 0, rfl, head_nilS, fun j hj => by simp at hj⟩
    · simp only [Value.slice.injEq] at e
      obtain ⟨rfl, _, rfl⟩ := e
      have h2 := h.le
      exact ⟨_, _, g, 0, rfl, ⟨h2.1, h2.2, .inr rfl, fun h => by cases h⟩, fun j hj => by simp at hj⟩
  | cons x t =>
    obtain ⟨g, cap, hv, hc1, hc2, hg1, hg2⟩ := own_some h (by simp)
    simp only [Value.slice.injEq] at hv
    obtain ⟨rfl, _, rfl⟩ := hv
    refine ⟨_, _, g, 0, rfl, ⟨hc1, hc2, .inr rfl, fun h => by cases h⟩, fun j hj => ⟨⟨hg1, hg2⟩, ?_⟩⟩
    obtain ⟨cs, h1, h2⟩ := h.at rfl j hj
    have h3 : Trm.lies false w' SM _ cs := h2
    exact ⟨cs, h1, Trm.lies_keep (fun h => h) h3 (fun _ _ => rfl) (fun b hb => ⟨(h.off b hb).1, (h.off b hb).2.1⟩)⟩
/-- a row of texts that was made: as an argument -/
theorem own_read {w : World} {base : Nat} {S : Nat → Prop} {v : Value} {l : List ByteArray} (h : OwnSt w base S v l) (hs : ∀ s ∈ l, s.size ≤ 140737488355328) : ∃ a c b o, v = .slice a l.length c ∧ Headed a l.length c b o ∧ liesS w (fun y => base ≤ y ∧ y < w.heap.size) l b o := by
  obtain ⟨a, c, rfl⟩ := own_slice h
  cases l with
  | nil =>
    have h' := h
    obtain ⟨⟨xs, h1, _⟩, _⟩ := h'
    rcases h1.2 with ⟨e, e2⟩ | ⟨g, cap, cur, e, _⟩
    · simp only [Value.slice.injEq] at e
      obtain ⟨rfl, _, rfl⟩ := e
      exact ⟨none, 0, 0, 0, rfl, head_nilS, fun j hj => by simp at hj⟩
    · simp only [Value.slice.injEq] at e
      obtain ⟨rfl, _, rfl⟩ := e
      have h2 := h.le
      exact ⟨_, _, g, 0, rfl, ⟨h2.1, h2.2, .inr rfl, fun h => by cases h⟩, fun j hj => by simp at hj⟩
  | cons x t =>
    obtain ⟨g, cap, hv, hc1, hc2, hg1, hg2⟩ := own_some h (by simp)
    simp only [Value.slice.injEq] at hv
    obtain ⟨rfl, _, rfl⟩ := hv
    refine ⟨_, _, g, 0, rfl, ⟨hc1, hc2, .inr rfl, fun h => by cases h⟩, fun j hj => ⟨⟨hg1, hg2⟩, hs _ (List.getElem_mem hj), ?_⟩⟩
    have := own_str h rfl j hj
    exact this
theorem putS_mem {l : List ByteArray} {x s : ByteArray} {m : Bool} (h : s ∈ putS l x m) : s ∈ l ∨ s = x := by
  unfold putS at h
  rw [List.mem_append, List.mem_append] at h
  rcases h with (h | h) | h
  · exact .inl (List.mem_of_mem_take h)
  · split at h
    · exact .inr (by simpa using h)
    · simp at h
  · exact .inl (List.mem_of_mem_drop h)
theorem putS_len {l : List ByteArray} {x : ByteArray} {m : Bool} : (putS l x m).length ≤ l.length + 1 := by
  unfold putS
  rw [List.length_append, List.length_append, List.length_take, List.length_drop]
  split <;> simp <;> omega
/-- the number that a text gives few -/
def numS (s : ByteArray) : Int := if h : 0 < s.size then (s.size : Int) + ((s[0]'h).toNat : Int) else 0
theorem numS_in {s : ByteArray} (h : s.size ≤ 140737488355328) : In64 (numS s) := by
  unfold numS In64
  split
  · have : (s[0]).toNat < 256 := UInt8.toNat_lt _
    omega
  · omega
def opN (op : Int) : Nat := op.natAbs % 4
def valsF (m : Bool) (l : List ByteArray) : List ByteArray := l.foldl (fun acc s => putS acc (fewV (numS s)) m) []
theorem valsF_next {m : Bool} {l : List ByteArray} {k : Nat} (h : k < l.length) : valsF m (l.take (k + 1)) = putS (valsF m (l.take k)) (fewV (numS l[k])) m := by
  unfold valsF
  rw [List.take_succ_eq_append_getElem h, List.foldl_append]
  rfl
def Short (l : List ByteArray) : Prop := ∀ s ∈ l, s.size ≤ 3
theorem fewV_size (n : Int) : (fewV n).size ≤ 3 := (fewW_size _).1
theorem short_put {l : List ByteArray} {n : Int} {m : Bool} (h : Short l) : Short (putS l (fewV n) m) := fun s hs => by
  rcases putS_mem hs with h1 | h1
  · exact h s h1
  · rw [h1]; exact fewV_size n
def shVals (i : Nat) (t : Trm) : List ByteArray :=
  if 2 ≤ opN t.2.1 then (if valsF (t.1.size == 7) (t.2.2.take 6) = [] then [fewV (i : Int), ⟨#[120]⟩] else valsF (t.1.size == 7) (t.2.2.take 6)) else []
def shT (i : Nat) (t : Trm) : Trm := (fewV ((t.1.size % 4 : Nat) : Int), ((1 + opN t.2.1 : Nat) : Int), shVals i t)
def shapedV (l : List Trm) : List Trm := (l.take 8).mapIdx shT
theorem mapIdx_next {l : List Trm} {j : Nat} (h : j < l.length) : (l.take (j + 1)).mapIdx shT = (l.take j).mapIdx shT ++ [shT j l[j]] := by
  rw [List.take_succ_eq_append_getElem h, List.mapIdx_concat, List.length_take, Nat.min_eq_left (by omega)]
def ShPost (l : List Trm) (w : World) (e : Ending) (w' : World) : Prop := ∃ a c b o, e = .returned (.slice a (shapedV l).length c) ∧ Headed a (shapedV l).length c b o ∧ liesT false w' (New w w') (shapedV l) b o ∧ Below w.heap.size w w'
theorem valsF_short {m : Bool} (l : List ByteArray) : Short (valsF m l) ∧ (valsF m l).length ≤ l.length := by
  unfold valsF
  suffices H : ∀ (l acc : List ByteArray), Short acc → Short (l.foldl (fun acc s => putS acc (fewV (numS s)) m) acc) ∧ (l.foldl (fun acc s => putS acc (fewV (numS s)) m) acc).length ≤ acc.length + l.length by
    have := H l [] (fun s hs => by cases hs)
    simpa using this
  intro l
  induction l with
  | nil => intro acc h; exact ⟨h, by simp⟩
  | cons s t ih =>
    intro acc h
    have h1 := ih _ (short_put (n := numS s) (m := m) h)
    have h2 := putS_len (l := acc) (x := fewV (numS s)) (m := m)
    refine ⟨h1.1, ?_⟩
    have h3 := h1.2
    simp only [List.foldl_cons, List.length_cons]
    omega
set_option maxHeartbeats 8000000 in
set_option maxRecDepth 100000 in
theorem shaped_any (l : List Trm) (S : Nat → Prop) (al : Option Addr) (cl bl ol : Nat) (w : World) (hh : Headed al l.length cl bl ol) (hl : liesT false w S l bl ol) (hS : ∀ b, S b → b < w.heap.size) (hwt : wtT l ≤ 2147483647) :
    Calls Tryd.prog 7 #[.slice al l.length cl] w (ShPost l w) := by
  have HL := hmk hl
  have HH := hmk hh
  have hm : l.length ≤ 2147483647 := Nat.le_trans (wtT_len l) hwt
  obtain ⟨i5, hi5, hz5⟩ := Option.map_eq_some_iff.1 info50
  simp only [Prod.mk.injEq] at hz5
  have hJ := hmk (And.intro hi5 hz5)
  have HWT : Hid (∀ t ∈ l, wtS t.2.2 ≤ 2147483647) := fun t ht => by have := wtT_mem ht; omega
  clear hh hl hi5 hz5 hwt
  go_enter Tryd.func7, Tryd.ntmps7
  go_wp2_with fail
  go_loopw [3, 4] (fun e3 e4 wr => ∃ (j : Nat) (SM : Nat → Prop), j ≤ l.length ∧ j ≤ 8 ∧ e4 = .int .i64 (j : Int) ∧ Below w.heap.size w wr ∧ Hid (OwnF wr w.heap.size SM e3 ((l.take j).mapIdx shT))) (fun e3 e4 _ => l.length - (RowKit.intOf e4).toNat)
  case atStart => exact ⟨0, fun _ => False, by omega, by omega, rfl, Below.refl _ _, (by show OwnF _ _ _ _ _; simpa using OwnR.nil _ _)⟩
  case round =>
    obtain ⟨j, SM, hj, hj8, rfl, Bj, HO⟩ := hrel
    have hzr := Bj.size
    by_cases hjl : j < l.length ∧ j < 8
    · obtain ⟨hjl, hjl8⟩ := hjl
      have y1 : (j : Int) < l.length := by omega
      have y8 : (j : Int) < 8 := by omega
      obtain ⟨hSb, cs, hrow, ht⟩ := HL.out j hjl
      obtain ⟨a, c, tb, to', rfl, hop, hks, htd, hts, _⟩ := ht
      obtain rfl : al = some ⟨bl, ol, none⟩ := HH.out.at_.resolve_left (by omega)
      obtain ⟨q, q0, q1⟩ := row3 (hrow.keep (Bj.block _ (hS _ hSb)))
      have hbl := hS _ hSb
      have HT := hmk (mapIdx_next hjl)
      have HW1 := hmk (HWT.out _ (List.getElem_mem hjl))
      obtain ⟨⟨key, op, vs⟩, hx⟩ : ∃ x, l[j] = x := ⟨_, rfl⟩
      rw [hx] at hts hks htd hop q q0 q1 HT HW1
      simp only at hts hks htd hop q q0 q1 HW1
      have hvl : vs.length ≤ 2147483647 := Nat.le_trans (wtS_len vs) HW1.out
      have HTS := hmk (fun (W : World) (hW : Below w.heap.size w W) => hts.keep (fun b hb => hW.block b (hS b hb)) (fun _ h => h))
      have HTD := hmk htd
      have HKS := hmk hks
      have hop2 : -9223372036854775808 ≤ op ∧ op < 9223372036854775808 := by unfold In64 at hop; omega
      have hrow0 : Hid (rowAt w bl (ol + j * 3) [.string key, .int .i64 op, .slice a vs.length c]) := by rw [hx] at hrow; exact hrow
      clear hrow hop hts htd hx
      obtain ⟨p, hp⟩ : ∃ p, opN op = p := ⟨_, rfl⟩
      have hp4 : p < 4 := by rw [← hp]; exact Nat.mod_lt _ (by omega)
      have hpt : Int.tmod op 4 = (p : Int) ∨ (Int.tmod op 4 = -(p : Int) ∧ 0 < p) := by
        unfold opN at hp
        rcases Int.natAbs_eq op with e | e
        · left; rw [e, ← hp]; rfl
        · have e2 : Int.tmod op 4 = -(p : Int) := by rw [e, Int.neg_tmod, ← hp]; rfl
          by_cases h0 : p = 0
          · left; rw [e2, h0]; rfl
          · right; exact ⟨e2, by omega⟩
      have HPP := hmk hp
      clear hp
      go_upto_if 26 with fail
      go_cut [5] (fun e5 wx => e5 = .int .i64 (p : Int) ∧ wx = wr)
      case first =>
        rcases hpt with e | ⟨e, h0⟩
        · have y2 : ¬ Int.tmod op 4 < 0 := by omega
          go_wp2_with fail
          go_meet
          exact ⟨by first | rfl | rw [e], rfl⟩
        · have y2 : Int.tmod op 4 < 0 := by omega
          have y3 : IntKind.i64.wrap (-Int.tmod op 4) = (p : Int) := by rw [IntKind.wrap_i64]; omega
          go_wp2_with fail
          go_meet
          exact ⟨by first | rfl | rw [y3] | (rw [e]; done), rfl⟩
      case rest =>
        obtain ⟨rfl, rfl⟩ := hcut
        clear hpt hop2 q0
        obtain ⟨kk, hkk⟩ : ∃ kk, key.size % 4 = kk := ⟨_, rfl⟩
        have hk4 : kk < 4 := by omega
        have FWK : Hid (∀ W : World, Calls Tryd.prog 22 #[.int .i64 (kk : Int)] W (FwPost (kk : Int) W)) := fun W => few_any _ (by unfold In64; omega) W
        have yk : Int.tmod (key.size : Int) 4 = (kk : Int) := by rw [← hkk]; rfl
        have yk2 : (key.size : Int) % 4 = (kk : Int) := by omega
        have yp : IntKind.i64.wrap (1 + (p : Int)) = ((1 + p : Nat) : Int) := by rw [IntKind.wrap_i64]; omega
        have HKK := hmk hkk
        obtain ⟨m7, hm7⟩ : ∃ m7, (key.size == 7) = m7 := ⟨_, rfl⟩
        have ym7 : ((key.size : Int) == 7) = m7 := by
          rw [← hm7, Bool.eq_iff_iff, beq_iff_eq, beq_iff_eq]; omega
        have HSH : Hid (shT j (key, op, vs) = (fewV (kk : Int), ((1 + p : Nat) : Int), if 2 ≤ p then (if valsF m7 (vs.take 6) = [] then [fewV (j : Int), ⟨#[120]⟩] else valsF m7 (vs.take 6)) else [])) := by
          show _ = _
          unfold shT shVals
          rw [HPP.out, hkk, hm7]
        clear hkk hm7
        go_upto_region 9 with (first | (go_at_call 22; refine (FWK.out _).mono ?_; rintro e w1 ⟨rfl, rfl⟩))
        obtain ⟨KW, hKW⟩ : ∃ KW, fewV (kk : Int) = KW := ⟨_, rfl⟩
        rw [hKW] at HSH ⊢
        have hKs : KW.size ≤ 3 := by rw [← hKW]; exact fewV_size _
        have hX1 := heap_alloc_new w1 (.cells #[.string KW, .int .i64 (1 + (p : Int)), .slice none 0 0] 50)
        have B1 : Below w.heap.size w (w1.alloc (.cells #[.string KW, .int .i64 (1 + (p : Int)), .slice none 0 0] 50)) := Bj.alloc (by omega) _
        have HXW : Hid (w.heap.size ≤ w1.heap.size) := hzr
        have hXl1 : w1.heap.size < (w1.alloc (.cells #[.string KW, .int .i64 (1 + (p : Int)), .slice none 0 0] 50)).heap.size := by rw [alloc_size]; omega
        have HOX : Hid ((∀ b, SM b → b < w1.heap.size) ∧ ∀ r, u3.ownBlock = some r → r < w1.heap.size) := own_off HO.out
        have HO1 : Hid (OwnF (w1.alloc (.cells #[.string KW, .int .i64 (1 + (p : Int)), .slice none 0 0] 50)) w.heap.size SM u3 ((l.take j).mapIdx shT)) := HO.out.alloc keepF _
        have HQ : Hid (∀ W : World, Below w.heap.size w W → W.cell? ⟨bl, ol + j * 3, none⟩ = some (.string key) ∧ W.cell? ⟨bl, ol + j * 3 + 2, none⟩ = some (.slice a vs.length c)) := fun W hW => by
          obtain ⟨d0, d1, d2⟩ := row3 (hrow0.out.keep (hW.block _ hbl))
          exact ⟨d0, d2⟩
        clear Bj HO q q1
        generalize (w1.alloc (.cells #[.string KW, .int .i64 (1 + (p : Int)), .slice none 0 0] 50)) = w2 at *
        have HX1 := hmk hX1
        have HXL1 := hmk hXl1
        clear hX1 hXl1 hzr
        generalize w1.heap.size = X at *
        go_wp2_with fail
        go_loopw [7] (fun e7 wq => ∃ (k : Nat) (v : Value), k ≤ vs.length ∧ k ≤ 6 ∧ e7 = .int .i64 (k : Int) ∧ (2 ≤ p ∨ k = 0) ∧ Below w.heap.size w wq ∧ Hid (wq.heap[X]? = some (.cells #[.string KW, .int .i64 (1 + (p : Int)), v] 50)) ∧ Hid (OwnSt wq (X + 1) (fun _ => False) v (valsF m7 (vs.take k))) ∧ Hid (OwnF wq w.heap.size SM u3 ((l.take j).mapIdx shT))) (fun e7 _ => 6 - (RowKit.intOf e7).toNat)
        case atStart => exact ⟨0, .slice none 0 0, by omega, by omega, rfl, .inr rfl, B1, HX1, (by show OwnSt _ _ _ _ _; exact OwnR.nil _ _), HO1⟩
        case round =>
          clear B1 HX1 HO1 HXL1
          obtain ⟨k, v, hk, hk6, rfl, hkp, Bk, HXk, HSk, HOk⟩ := hrel
          have hXl := lt_blk HXk.out
          have hzk := Bk.size
          obtain ⟨d0, d1⟩ := HQ.out wr Bk
          have c1 : wr.cell? ⟨X, 1, none⟩ = some (.int .i64 (1 + (p : Int))) := by rw [cell_of_block HXk.out]; rfl
          by_cases hgo : k < vs.length ∧ k < 6 ∧ 2 ≤ p
          · obtain ⟨h1, h2, h3⟩ := hgo
            have z1 : (k : Int) < vs.length := by omega
            have z2 : (k : Int) < 6 := by omega
            have z3 : (2 : Int) < 1 + (p : Int) := by omega
            obtain rfl : a = some ⟨tb, to', none⟩ := HTD.out.at_.resolve_left (by omega)
            obtain ⟨_, hks1, d2⟩ := HTS.out wr Bk k h1
            have HNX := hmk (valsF_next (m := m7) h1)
            have HNM : Hid (In64 (numS vs[k])) := numS_in hks1
            obtain ⟨x, hx⟩ : ∃ x, vs[k] = x := ⟨_, rfl⟩
            rw [hx] at d2 hks1 HNX HNM
            clear hx
            go_upto_if 69 with fail
            go_cut [8] (fun e8 wx => e8 = .int .i64 (numS x) ∧ wx = wr)
            case first =>
              by_cases hx0 : 0 < x.size
              · have z4 : (0 : Int) < x.size := by omega
                have hb : (x[0]).toNat < 256 := UInt8.toNat_lt _
                have z5 : IntKind.i64.wrap ((x[0]).toNat : Int) = ((x[0]).toNat : Int) := by rw [IntKind.wrap_i64]; omega
                have z6 : IntKind.i64.wrap ((x.size : Int) + ((x[0]).toNat : Int)) = (x.size : Int) + ((x[0]).toNat : Int) := by rw [IntKind.wrap_i64]; omega
                have HV : Hid (numS x = (x.size : Int) + ((x[0]).toNat : Int)) := by show _ = _; unfold numS; rw [dif_pos hx0]
                go_wp2_with fail
                go_meet
                exact ⟨by rw [HV.out], rfl⟩
              · have z4 : ¬ (0 : Int) < x.size := by omega
                have HV : Hid (numS x = 0) := by show _ = _; unfold numS; rw [dif_neg hx0]
                have z5 : x.size = 0 := by omega
                go_wp2_with fail
                go_meet
                exact ⟨by first | (rw [HV.out]; done) | (rw [HV.out, z5]; done) | (rw [HV.out, z5]; rfl), rfl⟩
            case rest =>
              obtain ⟨rfl, rfl⟩ := hcut
              have c2 : wc.cell? ⟨X, 2, none⟩ = some v := by rw [cell_of_block HXk.out]; rfl
              have hvs := valsF_short (m := m7) (vs.take k)
              obtain ⟨ra, rc, rb, ro, rfl, rhd, rls⟩ := own_read HSk.out (fun s hs => Nat.le_trans (hvs.1 s hs) (by decide))
              have hvl6 : (valsF m7 (vs.take k)).length ≤ 6 := by have := hvs.2; rw [List.length_take] at this; omega
              have FWV : Hid (∀ W : World, Calls Tryd.prog 22 #[.int .i64 (numS x)] W (FwPost (numS x) W)) := fun W => few_any _ HNM.out W
              have PUT : Hid (∀ W : World, Below wc.heap.size wc W → Calls Tryd.prog 23 #[.slice ra (valsF m7 (vs.take k)).length rc, .string (fewV (numS x)), .bool m7] W (PtPost (valsF m7 (vs.take k)) (fewV (numS x)) m7 W)) := fun W hW =>
                put_any _ _ _ (fun y => X + 1 ≤ y ∧ y < wc.heap.size) ra rc rb ro W rhd (rls.keep (fun y hy => hW.block y hy.2) (fun _ h => h)) (fun y hy => by have := hy.2; have := hW.size; omega) (by omega)
              clear rhd rls hvs HSk d2 HNM
              generalize valsF m7 (vs.take k) = acc at *
              go_wp2_with fail
              have hne : bl ≠ X := by have := HXW.out; omega
              refine wp_region_held_drew (S := fun Y => Y.cell? ⟨bl, ol + j * 3, none⟩ = some (.string key)) (by kernel_rfl) d0 (fun hHeld => ?_)
              (refine wpAnyH_take (i := 0) (v := ?_) rfl (by kernel_rfl) (by kernel_rfl) (by kernel_rfl) (fun _ _ _ h => h) (Or.inl ⟨by kernel_rfl, ?_⟩) (by assumption) ?_; rotate_left 1; (intro W0 hSw; skip; go_simp; (try with_reducible rfl)); (try simp only [Act.put, List.setIfInBounds_toArray, List.set_cons_zero, List.set_cons_succ]))
              (refine wpAnyH_take (i := 2) (v := ?_) rfl (by kernel_rfl) (by kernel_rfl) (by kernel_rfl) (fun _ _ _ h => h) (Or.inl ⟨by kernel_rfl, ?_⟩) (by assumption) ?_; rotate_left 1; (intro W0 hSw; skip; go_simp; (try with_reducible rfl)); (try simp only [Act.put, List.setIfInBounds_toArray, List.set_cons_zero, List.set_cons_succ]))
              (refine wpAnyH_take (i := 4) (v := ?_) rfl (by kernel_rfl) (by kernel_rfl) (by kernel_rfl) (fun _ _ _ h => h) (Or.inl ⟨by kernel_rfl, ?_⟩) (by assumption) ?_; rotate_left 1; (intro W0 hSw; skip; go_simp; (try with_reducible rfl)); (try simp only [Act.put, List.setIfInBounds_toArray, List.set_cons_zero, List.set_cons_succ]))
              (refine wpAnyH_take (i := 5) (v := ?_) rfl (by kernel_rfl) (by kernel_rfl) (by kernel_rfl) (fun _ _ _ h => h) (Or.inl ⟨by kernel_rfl, ?_⟩) (by assumption) ?_; rotate_left 1; (intro W0 hSw; skip; go_simp; (try with_reducible rfl)); (try simp only [Act.put, List.setIfInBounds_toArray, List.set_cons_zero, List.set_cons_succ]))
              (refine wpAnyH_take (i := 6) (v := ?_) rfl (by kernel_rfl) (by kernel_rfl) (by kernel_rfl) (fun _ _ _ h => h) (Or.inl ⟨by kernel_rfl, ?_⟩) (by assumption) ?_; rotate_left 1; (intro W0 hSw; skip; go_simp; (try with_reducible rfl)); (try simp only [Act.put, List.setIfInBounds_toArray, List.set_cons_zero, List.set_cons_succ]))
              (refine wpAnyH_take (i := 7) (v := ?_) rfl (by kernel_rfl) (by kernel_rfl) (by kernel_rfl) (fun _ _ _ h => h) (Or.inl ⟨by kernel_rfl, ?_⟩) (by assumption) ?_; rotate_left 1; (intro W0 hSw; skip; go_simp; (try with_reducible rfl)); (try simp only [Act.put, List.setIfInBounds_toArray, List.set_cons_zero, List.set_cons_succ]))
              (refine wpAnyH_take (i := 8) (v := ?_) rfl (by kernel_rfl) (by kernel_rfl) (by kernel_rfl) (fun _ _ _ h => h) (Or.inl ⟨by kernel_rfl, ?_⟩) (by assumption) ?_; rotate_left 1; (intro W0 hSw; skip; go_simp; (try with_reducible rfl)); (try simp only [Act.put, List.setIfInBounds_toArray, List.set_cons_zero, List.set_cons_succ]))
              (refine wpAnyH_take (i := 9) (v := ?_) rfl (by kernel_rfl) (by kernel_rfl) (by kernel_rfl) (fun _ _ _ h => h) (Or.inl ⟨by kernel_rfl, ?_⟩) (by assumption) ?_; rotate_left 1; (intro W0 hSw; skip; go_simp; (try with_reducible rfl)); (try simp only [Act.put, List.setIfInBounds_toArray, List.set_cons_zero, List.set_cons_succ]))
              (refine wpAnyH_take (i := 10) (v := ?_) rfl (by kernel_rfl) (by kernel_rfl) (by kernel_rfl) (fun _ _ _ h => h) (Or.inl ⟨by kernel_rfl, ?_⟩) (by assumption) ?_; rotate_left 1; (intro W0 hSw; skip; go_simp; (try with_reducible rfl)); (try simp only [Act.put, List.setIfInBounds_toArray, List.set_cons_zero, List.set_cons_succ]))
              have c2d : wc.drew.cell? ⟨X, 2, none⟩ = some (.slice ra acc.length rc) := c2
              have bd : Below wc.heap.size wc wc.drew := (Below.refl _ _).drew
              refine wpAnyH_ready (rs := [1, 3]) (by kernel_rfl) (by simp) ?_
              refine AllReadyH.cons rfl (fun K hK => ?_) (AllReadyH.cons rfl (fun K hK => ?_) AllReadyH.nil)
              · skip
                go_simp
                refine hK.out _ _ d0 (fun _ => ?_)
                clear hK K
                (try simp only [Act.put, List.setIfInBounds_toArray, List.set_cons_zero, List.set_cons_succ])
                refine wpAnyH_ready (rs := [3]) (by kernel_rfl) (by simp) ?_
                refine AllReadyH.cons rfl (fun K hK => ?_) AllReadyH.nil
                go_simp
                refine (FWV.out _).mono ?_
                rintro e wz ⟨rfl, rfl⟩
                refine hK.out _ _ d0 (fun _ => ?_)
                clear hK K
                (try simp only [Act.put, List.setIfInBounds_toArray, List.set_cons_zero, List.set_cons_succ])
                refine wpAnyH_ready (rs := [11]) (by kernel_rfl) (by simp) ?_
                refine AllReadyH.cons rfl (fun K hK => ?_) AllReadyH.nil
                go_simp
                refine (PUT.out _ bd).mono ?_
                rintro e wc2 ⟨v9, rfl, o9, b9⟩
                obtain ⟨sa, sc, rfl⟩ := own_slice o9
                have bc : Below wc.heap.size wc wc2 := bd.trans (b9.mono bd.size)
                have d9 := (bc.cell (p := ⟨bl, ol + j * 3, none⟩) (by show bl < _; omega)).trans d0
                refine hK.out _ _ d9 (fun _ => ?_)
                clear hK K
                (try simp only [Act.put, List.setIfInBounds_toArray, List.set_cons_zero, List.set_cons_succ])
                (refine wpAnyH_take (i := 12) (v := ?_) rfl (by kernel_rfl) (by kernel_rfl) (by kernel_rfl) (fun _ _ _ h => h) (Or.inl ⟨by kernel_rfl, ?_⟩) (by assumption) ?_; rotate_left 1; (intro W0 hSw; skip; go_simp; (try with_reducible rfl)); (try simp only [Act.put, List.setIfInBounds_toArray, List.set_cons_zero, List.set_cons_succ]))
                have hX9 : wc2.heap[X]? = some (.cells #[.string KW, .int .i64 (1 + (p : Int)), .slice ra acc.length rc] 50) := (bc.block X hXl).trans HXk.out
                have f9 : wc2.frozen? ⟨X, 2, none⟩ = false := frozen_of_block hX9 2
                have c9 : wc2.cell? ⟨X, 2, none⟩ = some (.slice ra acc.length rc) := by rw [cell_of_block hX9]; rfl
                refine wpAnyH_ready (rs := [13]) (by kernel_rfl) (by simp) ?_
                refine AllReadyH.cons rfl (fun K hK => ?_) AllReadyH.nil
                go_simp
                refine hK.out _ _ ((World.cell?_setCell_far wc2 ⟨X, 2, none⟩ ⟨bl, ol + j * 3, none⟩ (.slice sa (putS acc (fewV (numS x)) m7).length sc) (fun e => hne e.symm)).trans d9) (fun _ => ?_)
                clear hK K
                (try simp only [Act.put, List.setIfInBounds_toArray, List.set_cons_zero, List.set_cons_succ])
                refine wpAnyH_done (by kernel_rfl) ?_ _
                (try dsimp only [Act.put, List.getElem_toArray, List.getElem_cons_succ, List.getElem_cons_zero, List.setIfInBounds_toArray, List.set_cons_zero, List.set_cons_succ])
                have B10 : Below w.heap.size w (wc2.setCell ⟨X, 2, none⟩ (.slice sa (putS acc (fewV (numS x)) m7).length sc)) := (Bk.trans (bc.mono (by omega))).grown (grown_set1 wc2 X 2 _) (by have := bc.size; omega) (fun r hr => by have := Option.some.inj hr; have := HXW.out; omega)
                have HX10 : Hid ((wc2.setCell ⟨X, 2, none⟩ (.slice sa (putS acc (fewV (numS x)) m7).length sc)).heap[X]? = some (.cells #[.string KW, .int .i64 (1 + (p : Int)), .slice sa (putS acc (fewV (numS x)) m7).length sc] 50)) := set_block hX9 2 _
                have HS10 : Hid (OwnSt (wc2.setCell ⟨X, 2, none⟩ (.slice sa (putS acc (fewV (numS x)) m7).length sc)) (X + 1) (fun _ => False) (.slice sa (putS acc (fewV (numS x)) m7).length sc) (putS acc (fewV (numS x)) m7)) := (o9.base (base' := X + 1) (by have := bd.size; omega)).set keepS (by omega) 2 _
                have HO10 : Hid (OwnF (wc2.setCell ⟨X, 2, none⟩ (.slice sa (putS acc (fewV (numS x)) m7).length sc)) w.heap.size SM u3 ((l.take j).mapIdx shT)) := (HOk.out.below keepF bc).keep keepF (grown_set1 wc2 X 2 _) (fun r hr => by
                  obtain rfl := Option.some.inj hr
                  exact ⟨fun h => by have := HOX.out.1 _ h; omega, fun h => by have := HOX.out.2 _ h; omega⟩)
                clear hHeld hX9 f9 c9 d9 bc b9 bd o9 d0 d1 c1 c2 c2d HXk HOk
                generalize (wc2.setCell ⟨X, 2, none⟩ (.slice sa (putS acc (fewV (numS x)) m7).length sc)) = w10 at *
                go_wp2_with fail
                go_roundw
                case rel => exact ⟨k + 1, _, by omega, by omega, by go_num, .inl h3, B10, HX10, (by show OwnSt _ _ _ _ _; rw [HNX.out]; exact HS10.out), HO10⟩
                case measure => simp [RowKit.intOf]; omega
              · skip
                go_simp
                refine (FWV.out _).mono ?_
                rintro e wz ⟨rfl, rfl⟩
                refine hK.out _ _ d0 (fun _ => ?_)
                clear hK K
                (try simp only [Act.put, List.setIfInBounds_toArray, List.set_cons_zero, List.set_cons_succ])
                refine wpAnyH_ready (rs := [1]) (by kernel_rfl) (by simp) ?_
                refine AllReadyH.cons rfl (fun K hK => ?_) AllReadyH.nil
                go_simp
                refine hK.out _ _ d0 (fun _ => ?_)
                clear hK K
                (try simp only [Act.put, List.setIfInBounds_toArray, List.set_cons_zero, List.set_cons_succ])
                refine wpAnyH_ready (rs := [11]) (by kernel_rfl) (by simp) ?_
                refine AllReadyH.cons rfl (fun K hK => ?_) AllReadyH.nil
                go_simp
                refine (PUT.out _ bd).mono ?_
                rintro e wc2 ⟨v9, rfl, o9, b9⟩
                obtain ⟨sa, sc, rfl⟩ := own_slice o9
                have bc : Below wc.heap.size wc wc2 := bd.trans (b9.mono bd.size)
                have d9 := (bc.cell (p := ⟨bl, ol + j * 3, none⟩) (by show bl < _; omega)).trans d0
                refine hK.out _ _ d9 (fun _ => ?_)
                clear hK K
                (try simp only [Act.put, List.setIfInBounds_toArray, List.set_cons_zero, List.set_cons_succ])
                (refine wpAnyH_take (i := 12) (v := ?_) rfl (by kernel_rfl) (by kernel_rfl) (by kernel_rfl) (fun _ _ _ h => h) (Or.inl ⟨by kernel_rfl, ?_⟩) (by assumption) ?_; rotate_left 1; (intro W0 hSw; skip; go_simp; (try with_reducible rfl)); (try simp only [Act.put, List.setIfInBounds_toArray, List.set_cons_zero, List.set_cons_succ]))
                have hX9 : wc2.heap[X]? = some (.cells #[.string KW, .int .i64 (1 + (p : Int)), .slice ra acc.length rc] 50) := (bc.block X hXl).trans HXk.out
                have f9 : wc2.frozen? ⟨X, 2, none⟩ = false := frozen_of_block hX9 2
                have c9 : wc2.cell? ⟨X, 2, none⟩ = some (.slice ra acc.length rc) := by rw [cell_of_block hX9]; rfl
                refine wpAnyH_ready (rs := [13]) (by kernel_rfl) (by simp) ?_
                refine AllReadyH.cons rfl (fun K hK => ?_) AllReadyH.nil
                go_simp
                refine hK.out _ _ ((World.cell?_setCell_far wc2 ⟨X, 2, none⟩ ⟨bl, ol + j * 3, none⟩ (.slice sa (putS acc (fewV (numS x)) m7).length sc) (fun e => hne e.symm)).trans d9) (fun _ => ?_)
                clear hK K
                (try simp only [Act.put, List.setIfInBounds_toArray, List.set_cons_zero, List.set_cons_succ])
                refine wpAnyH_done (by kernel_rfl) ?_ _
                (try dsimp only [Act.put, List.getElem_toArray, List.getElem_cons_succ, List.getElem_cons_zero, List.setIfInBounds_toArray, List.set_cons_zero, List.set_cons_succ])
                have B10 : Below w.heap.size w (wc2.setCell ⟨X, 2, none⟩ (.slice sa (putS acc (fewV (numS x)) m7).length sc)) := (Bk.trans (bc.mono (by omega))).grown (grown_set1 wc2 X 2 _) (by have := bc.size; omega) (fun r hr => by have := Option.some.inj hr; have := HXW.out; omega)
                have HX10 : Hid ((wc2.setCell ⟨X, 2, none⟩ (.slice sa (putS acc (fewV (numS x)) m7).length sc)).heap[X]? = some (.cells #[.string KW, .int .i64 (1 + (p : Int)), .slice sa (putS acc (fewV (numS x)) m7).length sc] 50)) := set_block hX9 2 _
                have HS10 : Hid (OwnSt (wc2.setCell ⟨X, 2, none⟩ (.slice sa (putS acc (fewV (numS x)) m7).length sc)) (X + 1) (fun _ => False) (.slice sa (putS acc (fewV (numS x)) m7).length sc) (putS acc (fewV (numS x)) m7)) := (o9.base (base' := X + 1) (by have := bd.size; omega)).set keepS (by omega) 2 _
                have HO10 : Hid (OwnF (wc2.setCell ⟨X, 2, none⟩ (.slice sa (putS acc (fewV (numS x)) m7).length sc)) w.heap.size SM u3 ((l.take j).mapIdx shT)) := (HOk.out.below keepF bc).keep keepF (grown_set1 wc2 X 2 _) (fun r hr => by
                  obtain rfl := Option.some.inj hr
                  exact ⟨fun h => by have := HOX.out.1 _ h; omega, fun h => by have := HOX.out.2 _ h; omega⟩)
                clear hHeld hX9 f9 c9 d9 bc b9 bd o9 d0 d1 c1 c2 c2d HXk HOk
                generalize (wc2.setCell ⟨X, 2, none⟩ (.slice sa (putS acc (fewV (numS x)) m7).length sc)) = w10 at *
                go_wp2_with fail
                go_roundw
                case rel => exact ⟨k + 1, _, by omega, by omega, by go_num, .inl h3, B10, HX10, (by show OwnSt _ _ _ _ _; rw [HNX.out]; exact HS10.out), HO10⟩
                case measure => simp [RowKit.intOf]; omega
          · have HFV : Hid (valsF m7 (vs.take k) = if 2 ≤ p then valsF m7 (vs.take 6) else []) := by
              show _ = _
              by_cases h2 : 2 ≤ p
              · rw [if_pos h2]
                congr 1
                by_cases h6 : k = 6
                · rw [h6]
                · have : k = vs.length := by omega
                  rw [this, List.take_length, List.take_of_length_le (by omega)]
              · rw [if_neg h2]
                have : k = 0 := by omega
                rw [this, List.take_zero]
                rfl
            have hsh := valsF_short (m := m7) (vs.take 6)
            go_upto_region 10 with fail
            go_cut [56] (fun e56 wx => e56 = .bool false ∧ wx = wr)
            case first =>
              clear HFV hsh HSH
              by_cases h1 : k < vs.length
              · by_cases h2 : k < 6
                · have h3 : ¬ 2 ≤ p := fun h => hgo ⟨h1, h2, h⟩
                  have z1 : (k : Int) < vs.length := by omega
                  have z2 : (k : Int) < 6 := by omega
                  have z3 : ¬ (2 : Int) < 1 + (p : Int) := by omega
                  clear hgo
                  go_wp2_with fail
                  go_meet
                  exact ⟨rfl, rfl⟩
                · have z1 : (k : Int) < vs.length := by omega
                  have z2 : ¬ (k : Int) < 6 := by omega
                  clear hgo
                  go_wp2_with fail
                  go_meet
                  exact ⟨rfl, rfl⟩
              · have z1 : ¬ (k : Int) < vs.length := by omega
                clear hgo
                go_wp2_with fail
                go_meet
                exact ⟨rfl, rfl⟩
            case rest =>
              obtain ⟨rfl, rfl⟩ := hcut
              obtain ⟨FV, hFVe⟩ : ∃ FV, (shT j (key, op, vs)).2.2 = FV := ⟨_, rfl⟩
              have HSH2 : Hid (shT j (key, op, vs) = (KW, ((1 + p : Nat) : Int), FV)) := by
                show _ = _
                rw [← hFVe, HSH.out]
              rw [HSH.out] at hFVe
              simp only at hFVe
              rw [HFV.out] at HSk
              clear HFV d0 d1 hgo
              have hFs : Short (if 2 ≤ p then valsF m7 (vs.take 6) else []) := by split; exact hsh.1; intro s hs; cases hs
              obtain ⟨G, hG⟩ : ∃ G, (if 2 ≤ p then valsF m7 (vs.take 6) else []) = G := ⟨_, rfl⟩
              have hGF : FV = if 2 ≤ p ∧ G = [] then [fewV (j : Int), ⟨#[120]⟩] else G := by
                rw [← hFVe, ← hG]
                by_cases h2 : 2 ≤ p
                · simp only [h2, true_and, if_true]
                · simp [h2]
              rw [hG] at HSk hFs
              obtain ⟨ra, rc, rb, ro, rfl, rhd, rls⟩ := own_read HSk.out (fun s hs => Nat.le_trans (hFs s hs) (by decide))
              have HRD := hmk rhd
              have HRL := hmk rls
              have HGF := hmk hGF
              have c2 : wc.cell? ⟨X, 2, none⟩ = some (.slice ra G.length rc) := by rw [cell_of_block HXk.out]; rfl
              have f2 : wc.frozen? ⟨X, 2, none⟩ = false := frozen_of_block HXk.out 2
              clear hFVe hG hsh HSH rhd rls hGF HSk
              obtain ⟨bad, hbad⟩ : ∃ bad, (decide (2 ≤ p) && decide (G = [])) = bad := ⟨_, rfl⟩
              have HBAD := hmk hbad
              clear hbad
              go_upto_region 16 with fail
              go_cut [103] (fun e103 wx => e103 = .bool bad ∧ wx = wc)
              case first =>
                have hb := HBAD.out
                by_cases h2 : 2 ≤ p
                · have z3 : (2 : Int) < 1 + (p : Int) := by omega
                  cases G with
                  | nil =>
                    have hb2 : bad = true := by rw [← hb]; simp [h2]
                    have HB := hmk hb2
                    clear hb hb2
                    go_wp2_with fail
                    go_meet
                    exact ⟨by first | (rw [HB.out]; done) | (rw [HB.out]; rfl), rfl⟩
                  | cons s G' =>
                    have hb2 : bad = false := by rw [← hb]; simp
                    have HB := hmk hb2
                    have z4 : (((s :: G').length : Int) == 0) = false := by rw [beq_eq_false_iff_ne, List.length_cons]; omega
                    generalize (s :: G').length = gl at *
                    clear hb hb2
                    go_wp2_with fail
                    go_meet
                    exact ⟨by first | (rw [HB.out]; done) | (rw [HB.out]; rfl), rfl⟩
                · have z3 : ¬ (2 : Int) < 1 + (p : Int) := by omega
                  have hb2 : bad = false := by rw [← hb]; simp [h2]
                  have HB := hmk hb2
                  clear hb hb2
                  go_wp2_with fail
                  go_meet
                  exact ⟨by first | (rw [HB.out]; done) | (rw [HB.out]; rfl), rfl⟩
              case rest =>
                obtain ⟨rfl, rfl⟩ := hcut
                have FWJ : Hid (∀ W : World, Calls Tryd.prog 22 #[.int .i64 (j : Int)] W (FwPost (j : Int) W)) := fun W => few_any _ (by unfold In64; omega) W
                go_upto_if 103 with fail
                go_cut [104] (fun _ wx => ∃ va vc vb vo, Hid (wx.heap[X]? = some (.cells #[.string KW, .int .i64 (1 + (p : Int)), .slice va FV.length vc] 50)) ∧ Hid (Headed va FV.length vc vb vo) ∧ Hid (liesS wx (fun y => X < y ∧ y < wx.heap.size) FV vb vo) ∧ Below w.heap.size w wx ∧ Hid (OwnF wx w.heap.size SM u3 ((l.take j).mapIdx shT)))
                case first =>
                  cases bad with
                  | false =>
                    have hF : FV = G := by
                      rw [HGF.out, if_neg]
                      intro h
                      have := HBAD.out
                      simp [h.1, h.2] at this
                    have HF := hmk hF
                    clear hF
                    go_wp2_with fail
                    go_meet
                    refine ⟨ra, rc, rb, ro, ?_, ?_, ?_, Bk, HOk⟩
                    · rw [HF.out]; exact HXk
                    · rw [HF.out]; exact HRD
                    · rw [HF.out]; exact hmk (HRL.out.keep (fun _ _ => rfl) (fun y hy => ⟨by omega, hy.2⟩))
                  | true =>
                    have hF : FV = [fewV (j : Int), ⟨#[120]⟩] := by
                      rw [HGF.out, if_pos]
                      have := HBAD.out
                      simpa using this
                    have HF := hmk hF
                    clear hF
                    go_wp2_with (first | (go_at_call 22; refine (FWJ.out _).mono ?_; rintro e wz ⟨rfl, rfl⟩))
                    go_meet
                    have hzs : (wz.setCell ⟨X, 2, none⟩ (.slice (some ⟨wz.heap.size, 0, none⟩) 2 2)).heap.size = wz.heap.size := by simp [World.setCell]
                    have aE := (Below.refl (wz.setCell ⟨X, 2, none⟩ (.slice (some ⟨wz.heap.size, 0, none⟩) 2 2)).heap.size (wz.setCell ⟨X, 2, none⟩ (.slice (some ⟨wz.heap.size, 0, none⟩) 2 2))).alloc (Nat.le_refl _) (.cells #[.string (fewV (j : Int)), .string ⟨#[120]⟩] 9)
                    have hN := heap_alloc_new (wz.setCell ⟨X, 2, none⟩ (.slice (some ⟨wz.heap.size, 0, none⟩) 2 2)) (.cells #[.string (fewV (j : Int)), .string ⟨#[120]⟩] 9)
                    have hXE := (aE.block X (by rw [hzs]; exact hXl)).trans (set_block HXk.out 2 (.slice (some ⟨wz.heap.size, 0, none⟩) 2 2))
                    have BE : Below w.heap.size w ((wz.setCell ⟨X, 2, none⟩ (.slice (some ⟨wz.heap.size, 0, none⟩) 2 2)).alloc (.cells #[.string (fewV (j : Int)), .string ⟨#[120]⟩] 9)) := (Bk.grown (grown_set1 wz X 2 _) (by omega) (fun r hr => by have := Option.some.inj hr; have := HXW.out; omega)).alloc (by rw [hzs]; omega) _
                    have OE : OwnF ((wz.setCell ⟨X, 2, none⟩ (.slice (some ⟨wz.heap.size, 0, none⟩) 2 2)).alloc (.cells #[.string (fewV (j : Int)), .string ⟨#[120]⟩] 9)) w.heap.size SM u3 ((l.take j).mapIdx shT) := (HOk.out.keep keepF (grown_set1 wz X 2 _) (fun r hr => by
                      obtain rfl := Option.some.inj hr
                      exact ⟨fun h => by have := HOX.out.1 _ h; omega, fun h => by have := HOX.out.2 _ h; omega⟩)).alloc keepF _
                    have hzE : ((wz.setCell ⟨X, 2, none⟩ (.slice (some ⟨wz.heap.size, 0, none⟩) 2 2)).alloc (.cells #[.string (fewV (j : Int)), .string ⟨#[120]⟩] 9)).heap.size = wz.heap.size + 1 := by rw [alloc_size, hzs]
                    rw [hzs] at hN
                    generalize ((wz.setCell ⟨X, 2, none⟩ (.slice (some ⟨wz.heap.size, 0, none⟩) 2 2)).alloc (.cells #[.string (fewV (j : Int)), .string ⟨#[120]⟩] 9)) = wE at *
                    refine ⟨some ⟨wz.heap.size, 0, none⟩, 2, wz.heap.size, 0, ?_, ?_, ?_, BE, OE⟩
                    · rw [HF.out]; exact hXE
                    · rw [HF.out]; exact ⟨(by show 2 ≤ 2; omega), (by unfold maxLen; omega), .inr rfl, fun h => by cases h⟩
                    · rw [HF.out]
                      intro q hq
                      refine ⟨⟨hXl, by omega⟩, ?_⟩
                      have hq2 : q < 2 := hq
                      have hq3 : q = 0 ∨ q = 1 := by omega
                      rcases hq3 with rfl | rfl
                      · exact ⟨Nat.le_trans (fewV_size _) (by decide), by rw [cell_of_block hN]; rfl⟩
                      · exact ⟨(by show (ByteArray.size ⟨#[120]⟩) ≤ 140737488355328; decide), by rw [cell_of_block hN]; rfl⟩
                case rest =>
                  obtain ⟨va, vc, vb, vo, HX8, HD8, HL8, B7, OT7⟩ := hcut
                  obtain ⟨z0, z1, z2⟩ := row3 (row3b HX8.out)
                  have hXl7 := lt_blk HX8.out
                  clear Bk HOk hXl hzk c1 HXk HRL c2 f2
                  have hz7 := B7.size
                  have hT7 := heap_alloc_new wc (.cells #[.string KW, .int .i64 (1 + (p : Int)), .slice va FV.length vc] 50)
                  have a7 : Below wc.heap.size wc (wc.alloc (.cells #[.string KW, .int .i64 (1 + (p : Int)), .slice va FV.length vc] 50)) := (Below.refl _ _).alloc (Nat.le_refl _) _
                  have hz8 : (wc.alloc (.cells #[.string KW, .int .i64 (1 + (p : Int)), .slice va FV.length vc] 50)).heap.size = wc.heap.size + 1 := by simp
                  have HAT : Hid (OwnF (wc.alloc (.cells #[.string KW, .int .i64 (1 + (p : Int)), .slice va FV.length vc] 50)) w.heap.size SM u3 ((l.take j).mapIdx shT)) := OT7.out.alloc keepF _
                  have HE7 : Hid (EF (KW, ((1 + p : Nat) : Int), FV) (wc.alloc (.cells #[.string KW, .int .i64 (1 + (p : Int)), .slice va FV.length vc] 50)) (fun y => X < y ∧ y < wc.heap.size) [.string KW, .int .i64 (1 + (p : Int)), .slice va FV.length vc]) :=
                    ⟨va, vc, vb, vo, by simp, (by show In64 ((1 + p : Nat) : Int); unfold In64; omega), (by show KW.size ≤ _; omega), HD8.out, HL8.out.keep (fun y hy => a7.block y hy.2) (fun _ h => h), fun h => by cases h⟩
                  have HSX : Hid (∀ b, X < b ∧ b < wc.heap.size → w.heap.size ≤ b ∧ b < (wc.alloc (.cells #[.string KW, .int .i64 (1 + (p : Int)), .slice va FV.length vc] 50)).heap.size ∧ some b ≠ u3.ownBlock) := fun b hb => ⟨by have := HXW.out; omega, by rw [hz8]; omega, fun e => by have := HOX.out.2 _ e.symm; omega⟩
                  have HLN : Hid (((l.take j).mapIdx shT).length ≤ 4294967296) := by show _ ≤ _; simp; omega
                  have HBS7 : Hid (w.heap.size ≤ (wc.alloc (.cells #[.string KW, .int .i64 (1 + (p : Int)), .slice va FV.length vc] 50)).heap.size) := by show _ ≤ _; omega
                  have HLJ : Hid (((l.take j).mapIdx shT).length = j) := by show _ = _; simp; omega
                  have HZ7 := hmk hz7
                  have HZ8 := hmk hz8
                  have HXL7 := hmk hXl7
                  clear OT7 hz7 hz8 HL8 HD8 hXl7
                  go_wp2_with (at_builtin; go_loud (refine wpl_push keepF _ rfl (.tmp 108) (.tmp 110) 22 rfl w.heap.size i5 _ 48 Tryd.underlying22 hJ.out.1 hJ.out.2.1 hJ.out.2.2.1 hJ.out.2.2.2 rfl (by decide) (by decide) _ (KW, ((1 + p : Nat) : Int), FV) rfl HAT.out wc.heap.size 1 (0, 0) rfl hT7 rfl one3 HE7.out HSX.out HLN.out HBS7.out ?_))
                  intro g2 cap2 w8 o8 g8 e8
                  have hob : ∀ r, u3.ownBlock = some r → w.heap.size ≤ r := fun r hr => (HAT.out.lt hr).1
                  have B8 : Below w.heap.size w w8 := (B7.alloc (by have := HZ7.out; omega) _).grown g8 HBS7.out (fun r hr => hob r hr)
                  have HO8 : Hid (OwnF w8 w.heap.size (fun b => SM b ∨ (X < b ∧ b < wc.heap.size)) (.slice (some ⟨g2, 0, none⟩) (j + 1) cap2) ((l.take (j + 1)).mapIdx shT)) := by
                    show OwnF _ _ _ _ _
                    rw [HT.out, HSH2.out]
                    first | exact o8 | (have := o8; rw [HLJ.out] at this; exact this)
                  clear HAT HE7 HSX hT7 o8 z0 z1 z2 HX8
                  go_wp2_with fail
                  go_roundw
                  case rel => exact ⟨j + 1, _, by omega, by omega, by go_num, B8, HO8⟩
                  case measure => simp [RowKit.intOf]; omega
    · have hT8 : l.take j = l.take 8 := by
        by_cases h8 : j = 8
        · rw [h8]
        · have : j = l.length := by omega
          rw [this, List.take_length, List.take_of_length_le (by omega)]
      rw [hT8] at HO
      obtain ⟨ra, rc, rb, ro, rfl, h1, h2⟩ := own_terms (l := shapedV l) HO.out
      have H1 := hmk h1
      have H2 := hmk h2
      clear HO h1 h2 hT8
      by_cases hj1 : j < l.length
      · have z1 : (j : Int) < l.length := by omega
        have z2 : ¬ (j : Int) < 8 := by omega
        clear hjl
        go_wp2_with fail
        (try simp only [Exit.inBlock, Exit.then])
        go_ret
        exact ⟨ra, rc, rb, ro, rfl, H1.out, H2.out, Bj⟩
      · have z1 : ¬ (j : Int) < l.length := by omega
        clear hjl
        go_wp2_with fail
        (try simp only [Exit.inBlock, Exit.then])
        go_ret
        exact ⟨ra, rc, rb, ro, rfl, H1.out, H2.out, Bj⟩
end Go.Proofs.YtagjbphadakifaaDoor
