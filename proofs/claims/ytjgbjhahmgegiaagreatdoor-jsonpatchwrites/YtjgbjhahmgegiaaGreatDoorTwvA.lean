import Derived.Test.YtjgbjhahmgegiaaGreatDoorAnwA
/- twinValue. -/
set_option linter.unusedSimpArgs false
set_option linter.unusedVariables false
namespace Go.Proofs.YtjgbjhahmgegiaaGreatDoor
open Go.RowKit
/-- six stores into a block where nothing of the value lies -/
theorem lies_set6T {w : World} {M : Nat} {T : Nat → Prop} {v : V} {cs : List Value} (h : v.lies false w T cs) (hM : ¬ T M) (i1 i2 i3 i4 i5 i6 : Nat) (u1 u2 u3 u4 u5 u6 : Value) :
    v.lies false ((((((w.setCell ⟨M, i1, none⟩ u1).setCell ⟨M, i2, none⟩ u2).setCell ⟨M, i3, none⟩ u3).setCell ⟨M, i4, none⟩ u4).setCell ⟨M, i5, none⟩ u5).setCell ⟨M, i6, none⟩ u6) T cs :=
  V.lies_keep (fun h => h) (fun x hx => by have : x ≠ M := (fun e => hM (e ▸ hx)); repeat (rw [set_other this])) (fun x hx => hx) _ h
theorem OwnR.set0 {α : Type} {E : α → World → (Nat → Prop) → List Value → Prop} {ty sz : Nat} (K : KeepE E) {w : World} {base B : Nat} {S : Nat → Prop} {v : Value} {l : List α} (h : OwnR E ty sz w base S v l) (hS : ¬ S B) (hv : v.ownBlock ≠ some B) (i : Nat) (u : Value) : OwnR E ty sz (w.setCell ⟨B, i, none⟩ u) base S v l :=
  h.keep K (grown_set1 w B i u) (fun r e => by cases e; exact ⟨hS, hv⟩)
/-- a row of one's own, as a list -/
theorem own_listL0 {w : World} {N : Nat} {S T : Nat → Prop} {v : Value} {l : List V} (h : OwnL false w N S v (l.map some)) (hT : ∀ b, S b → T b) (hv : ∀ g, v.ownBlock = some g → T g) : ∃ a c b o, v = .slice a l.length c ∧ Headed a l.length c b o ∧ liesL false w T l b o := by
  have h' := h
  obtain ⟨⟨xs, h1, h2⟩, h3⟩ := h'
  rcases h1.2 with ⟨rfl, e⟩ | ⟨g, cap, cur, rfl, _⟩
  · have e0 : l.length = 0 := by simpa using e
    have : l = [] := List.length_eq_zero_iff.1 e0
    subst this
    exact ⟨none, 0, 0, 0, rfl, headed_nil, by rw [liesL]; trivial⟩
  · have hle := h.le
    simp only [List.length_map] at hle ⊢
    refine ⟨_, cap, g, 0, rfl, ⟨hle.1, hle.2, .inr rfl, fun h => by cases h⟩, liesL_mk fun j hj => ⟨hv g rfl, ?_⟩⟩
    obtain ⟨cs, k1, k2⟩ := h.at (by simp) j (by simpa using hj)
    rw [List.getElem_map] at k2
    exact ⟨cs, k1, V.lies_keep (fun h => h) (fun _ _ => rfl) hT _ k2⟩
theorem own_listM0 {w : World} {N : Nat} {S T : Nat → Prop} {v : Value} {l : List Mem} (h : OwnM false w N S v (l.map some)) (hT : ∀ b, S b → T b) (hv : ∀ g, v.ownBlock = some g → T g) : ∃ a c b o, v = .slice a l.length c ∧ Headed a l.length c b o ∧ liesM false w T l b o := by
  have h' := h
  obtain ⟨⟨xs, h1, h2⟩, h3⟩ := h'
  rcases h1.2 with ⟨rfl, e⟩ | ⟨g, cap, cur, rfl, _⟩
  · have e0 : l.length = 0 := by simpa using e
    have : l = [] := List.length_eq_zero_iff.1 e0
    subst this
    exact ⟨none, 0, 0, 0, rfl, headed_nil, by rw [liesM]; trivial⟩
  · have hle := h.le
    simp only [List.length_map] at hle ⊢
    refine ⟨_, cap, g, 0, rfl, ⟨hle.1, hle.2, .inr rfl, fun h => by cases h⟩, liesM_mk fun j hj => ?_⟩
    obtain ⟨cs, k1, k2⟩ := h.at (by simp) j (by simpa using hj)
    rw [List.getElem_map] at k2
    obtain ⟨cs', rfl, hks, k3⟩ := k2
    exact ⟨hv g rfl, hks, cs', k1, V.lies_keep (fun h => h) (fun _ _ => rfl) hT _ k3⟩
/-- where a twin lies: where the value lay, or in new memory -/
def Tw (S : Nat → Prop) (w w' : World) (b : Nat) : Prop := S b ∨ (w.heap.size ≤ b ∧ b < w'.heap.size)
def TvPost (v : V) (S : Nat → Prop) (w : World) (e : Ending) (w' : World) : Prop := ∃ cs : List Value, e = .returned (.agg cs.toArray) ∧ v.lies false w' (Tw S w w') cs ∧ Below w.heap.size w w'
set_option maxHeartbeats 1000000 in
set_option maxRecDepth 100000 in
theorem twv_deep (k : Int) (b : Bool) (i : Int) (s : ByteArray) (l : List V) (m : List Mem) (lv : Int) (S : Nat → Prop) (cs : List Value) (w : World) (hlv : 60 < lv) (hl : (V.mk k b i s l m).lies false w S cs) (hS : ∀ b, S b → b < w.heap.size) :
    Calls Tryz.prog 7 #[.agg cs.toArray, .int .i64 lv] w (TvPost (V.mk k b i s l m) S w) := by
  have HV : Hid ((V.mk k b i s l m).lies false w S cs) := hl
  rw [V.lies] at hl
  obtain ⟨al, cl, bl, ol, am, cm, bm, om, rfl, hk, hi, hs, hal, ham, hl1, hm1, _⟩ := hl
  have HS : Hid (∀ b, S b → b < w.heap.size) := hS
  clear hl1 hm1 hS hal ham hk hi hs
  have y1 : lv > 60 := hlv
  have y2 : decide (60 < lv) = true := by simp [hlv]
  go_enter Tryz.func7, Tryz.ntmps7
  go_wp2_with fail
  (try simp only [Exit.inBlock, Exit.then])
  refine bodyPost_ret (v := .agg #[.int .i64 k, .bool b, .int .i64 i, .string s, .slice al l.length cl, .slice am m.length cm]) ?_ rfl ?_
  · rw [results_cell1 rfl]
    go_simp
  · have hB7 := three_below w (.cells #[.int .i64 k, .bool b, .int .i64 i, .string s, .slice al l.length cl, .slice am m.length cm] 25) (.cells #[.int .i64 k, .bool b, .int .i64 i, .string s, .slice al l.length cl, .slice am m.length cm] 25) (.cells #[.int .i64 k, .bool b, .int .i64 i, .string s, .slice none 0 0, .slice none 0 0] 25)
    exact ⟨[.int .i64 k, .bool b, .int .i64 i, .string s, .slice al l.length cl, .slice am m.length cm], rfl, V.lies_keep (fun h => h) (fun x hx => hB7.block x (HS.out x hx)) (fun _ h => .inl h) _ HV.out, hB7⟩
set_option maxHeartbeats 4000000 in
set_option maxRecDepth 100000 in
theorem twv_any (v : V) : ∀ (lv : Int) (S : Nat → Prop) (cs : List Value) (w : World), 0 ≤ lv → lv ≤ 61 → v.lies false w S cs → (∀ b, S b → b < w.heap.size) → v.wt ≤ 2147483648 →
    Calls Tryz.prog 7 #[.agg cs.toArray, .int .i64 lv] w (TvPost v S w) := by
  induction v using V.ind_v with
  | h k b i s l m ihl ihm =>
  intro lv S cs w hv0 hv1 hl hS hwt
  have HV : Hid ((V.mk k b i s l m).lies false w S cs) := hl
  rw [V.lies] at hl
  obtain ⟨al, cl, bl, ol, am, cm, bm, om, rfl, hk, hi, hs, hal, ham, hl1, hm1, _⟩ := hl
  have HL : Hid (liesL false w S l bl ol) := hl1
  have HM : Hid (liesM false w S m bm om) := hm1
  have HS : Hid (∀ b, S b → b < w.heap.size) := hS
  clear hl1 hm1
  rw [V.wt] at hwt
  have hlm := wtL_len l
  have hmm := wtM_len m
  obtain ⟨i0, hi0, hz0, hz1, hz2⟩ := info_parts info25
  obtain ⟨i1, hi1, hy0, hy1, hy2⟩ := info_parts info44
  have hI : Hid (Tryz.prog.info? 25 = some i0 ∧ i0.zero = some (.agg #[.int .i64 0, .bool false, .int .i64 0, .string ⟨#[]⟩, .slice none 0 0, .slice none 0 0]) ∧ i0.size = 6 ∧ i0.bytes = 88) := ⟨hi0, hz0, hz1, hz2⟩
  have hJ : Hid (Tryz.prog.info? 45 = some i1 ∧ i1.zero = some (.agg #[.string ⟨#[]⟩, .int .i64 0, .bool false, .int .i64 0, .string ⟨#[]⟩, .slice none 0 0, .slice none 0 0]) ∧ i1.size = 7 ∧ i1.bytes = 104) := ⟨hi1, hy0, hy1, hy2⟩
  clear hi0 hz0 hz1 hz2 hi1 hy0 hy1 hy2
  have t0 : TwF w #[.int .i64 k, .bool b, .int .i64 i, .string s, .slice al l.length cl, .slice am m.length cm] #[.int .i64 k, .bool b, .int .i64 i, .string s, .slice none 0 0, .slice none 0 0] (((w.alloc (.cells #[.int .i64 k, .bool b, .int .i64 i, .string s, .slice al l.length cl, .slice am m.length cm] 25)).alloc (.cells #[.int .i64 0, .bool false, .int .i64 0, .string ⟨#[]⟩, .slice none 0 0, .slice none 0 0] 25)).alloc (.cells #[.int .i64 k, .bool b, .int .i64 i, .string s, .slice none 0 0, .slice none 0 0] 25)) := ⟨three_below w _ _ _, (three_allocs w _ _ _).1, (three_allocs w _ _ _).2.1, (three_allocs w _ _ _).2.2⟩
  by_cases hlv : 60 < lv
  · exact twv_deep k b i s l m lv S _ w hlv HV.out hS
  have y1 : ¬ lv > 60 := hlv
  have y2 : decide (60 < lv) = false := by simp [hlv]
  clear HV
  go_enter Tryz.func7, Tryz.ntmps7
  go_wp2_with fail
  go_loopw [6] (fun e wr => ∃ (j : Nat) (slv : Value) (SL : Nat → Prop), j ≤ l.length ∧ e = .int .i64 (j : Int) ∧ TwF w #[.int .i64 k, .bool b, .int .i64 i, .string s, .slice al l.length cl, .slice am m.length cm] #[.int .i64 k, .bool b, .int .i64 i, .string s, slv, .slice none 0 0] wr ∧ OwnL false wr 0 SL slv ((l.map some).take j) ∧ Hid (∀ r, slv.ownBlock = some r → w.heap.size + 3 ≤ r) ∧ Hid (∀ b, SL b → S b ∨ w.heap.size + 3 ≤ b)) (fun e _ => l.length - (RowKit.intOf e).toNat)
  case atStart => exact ⟨0, _, _, by omega, rfl, t0, by simpa using OwnR.nil _ _, fun r h => by simp [Value.ownBlock] at h, fun b (h : False) => h.elim⟩
  case round =>
    clear t0
    obtain ⟨j, slv, SL, hj, rfl, tj, oj, HO, HSL⟩ := hrel
    have d4 : wr.cell? ⟨w.heap.size, 4, none⟩ = some (.slice al l.length cl) := by rw [cell_of_block tj.b0]; rfl
    have d5 : wr.cell? ⟨w.heap.size, 5, none⟩ = some (.slice am m.length cm) := by rw [cell_of_block tj.b0]; rfl
    by_cases hjl : j < l.length
    · have y3 : (j : Int) < l.length := by omega
      obtain ⟨hSb, csj, hrow, hlj⟩ := liesL_get HL.out j hjl
      obtain rfl : al = some ⟨bl, ol, none⟩ := hal.at_.resolve_left (by omega)
      have hkw : ∀ b, S b → wr.heap[b]? = w.heap[b]? := fun b hb => tj.below.block b (hS b hb)
      have hrow' := hrow.keep (hkw _ hSb)
      have hlj' := V.lies_keep (R' := false) (S' := S) (fun h => h) hkw (fun _ h => h) _ hlj
      have hwj : (l[j]).wt ≤ 2147483648 := by have := wtL_mem (List.getElem_mem hjl); omega
      have ih := ihl l[j] (List.getElem_mem hjl) (lv + 1) S csj wr (by omega) (by omega) hlj' (fun b hb => Nat.lt_of_lt_of_le (hS b hb) tj.below.size) hwj
      have HT : Hid ((l.map some).take (j + 1) = (l.map some).take j ++ [some l[j]]) := by show _ = _; rw [List.take_succ_eq_append_getElem (by simpa using hjl), List.getElem_map]
      obtain ⟨ek, eb, ei, es, eal, enl, ecl, eam, enm, ecm, rfl⟩ := V.ten hlj'
      obtain ⟨q0, q1, q2, q3, q4, q5⟩ := row6 hrow'
      have hll : ((l.map some).take j).length = j := by simp; omega
      obtain ⟨xv, hxv⟩ : ∃ xv, l[j] = xv := ⟨_, rfl⟩
      rw [hxv] at ih HT
      clear hlj hrow hrow' hlj' hxv hwj
      go_wp2_with fail
      refine ih.mono ?_
      rintro e w3 ⟨csu, rfl, hx3, bl3⟩
      obtain ⟨uk, ub, ui, us, ual, unl, ucl, uam, unm, ucm, rfl⟩ := V.ten hx3
      have t3 := tj.grown (grown_of_below bl3) (fun r e => by cases e)
      have o3 := oj.below (keepL false) bl3
      have e4 : ∀ o, (w3.alloc o).cell? ⟨w.heap.size + 1 + 1, 4, none⟩ = some slv := fun o => by rw [cell_of_block (t3.grown (World.grownBy_alloc w3 o none) (fun r e => by cases e)).b2]; rfl
      have hw3 : w.heap.size + 3 ≤ w3.heap.size := t3.lt
      have hwr : w.heap.size + 3 ≤ wr.heap.size := tj.lt
      have hown : ∀ r, slv.ownBlock = some r → w.heap.size + 3 ≤ r ∧ r < wr.heap.size := fun r hr => ⟨HO.out r hr, (oj.lt hr).2⟩
      have HK : Hid (∀ b, Tw S wr w3 b → 0 ≤ b ∧ b < w3.heap.size ∧ some b ≠ slv.ownBlock) := fun b hb => by
        rcases hb with hb | hb
        · have := HS.out b hb
          exact ⟨Nat.zero_le _, by omega, fun e => by have := (hown b e.symm).1; omega⟩
        · exact ⟨Nat.zero_le _, hb.2, fun e => by have := (hown b e.symm).2; omega⟩
      go_wp2_with (at_builtin; go_loud (refine wpl_push (keepL false) _ rfl (.tmp 32) (.tmp 34) 22 rfl 0 i0 _ 88 Tryz.underlying22 hI.out.1 hI.out.2.1 hI.out.2.2.1 hI.out.2.2.2 rfl (by decide) (by decide) slv (some xv) rfl ((o3.alloc (keepL false) _).alloc (keepL false) _) (w3.heap.size + 1) 1 (0, 0) rfl (alloc2_new w3 _ _) rfl one6 (keepL false _ _ _ _ _ _ (fun b hb => alloc2_keep w3 _ _ (HK.out b hb).2.1) (fun _ h => h) hx3) (fun b hb => alloc2_off (HK.out b hb)) (by rw [hll]; omega) (Nat.zero_le _) ?_))
      intro g cap w5 o5 g5 e5
      have t5 := ((t3.grown (World.grownBy_alloc w3 _ none) (fun r e => by cases e)).grown (World.grownBy_alloc _ _ none) (fun r e => by cases e)).grown g5 (fun r e => (hown r e).1)
      have hg : w.heap.size + 3 ≤ g := by
        rcases e5 with e | e
        · exact (hown g e).1
        · (try rw [alloc_size, alloc_size] at e); omega
      have HS5 : Hid (∀ b, SL b ∨ Tw S wr w3 b → S b ∨ w.heap.size + 3 ≤ b) := fun b hb => by
        rcases hb with hb | hb | hb
        · exact HSL.out b hb
        · exact .inl hb
        · exact .inr (by have := hb.1; omega)
      have HN5 : Hid (¬ (SL (w.heap.size + 1 + 1) ∨ Tw S wr w3 (w.heap.size + 1 + 1))) := fun hb => by
        rcases HS5.out _ hb with h | h
        · have := HS.out _ h; omega
        · omega
      have e6 : w5.cell? ⟨w.heap.size + 1 + 1, 4, none⟩ = some slv := by rw [cell_of_block t5.b2]; rfl
      have e7 : w5.frozen? ⟨w.heap.size + 1 + 1, 4, none⟩ = false := frozen_of_block t5.b2 4
      go_wp2_with fail
      go_roundw
      case rel => exact ⟨j + 1, _, _, by omega, by go_num, t5.set 4 _ rfl, by rw [HT.out]; exact o5.set0 (keepL false) HN5.out (fun e => by simp [Value.ownBlock] at e; omega) _ _, fun r e => by (simp [Value.ownBlock] at e; omega), HS5.out⟩
      case measure => simp [RowKit.intOf]; omega
    · obtain rfl : j = l.length := by omega
      have hlt : (l.map some).take l.length = l.map some := by rw [List.take_of_length_le (by simp)]
      rw [hlt] at oj
      clear hlt
      have y3 : ¬ (l.length : Int) < l.length := by omega
      rename World => wA
      have hownl : ∀ r, slv.ownBlock = some r → w.heap.size + 3 ≤ r ∧ r < wA.heap.size := fun r hr => ⟨HO.out r hr, (oj.lt hr).2⟩
      have hSl := oj.off
      have hA := tj.lt
      have bA := tj.below
      go_wp2_with fail
      go_loopw [8] (fun e wq => ∃ (j : Nat) (smv : Value) (SM : Nat → Prop), j ≤ m.length ∧ e = .int .i64 (j : Int) ∧ TwF w #[.int .i64 k, .bool b, .int .i64 i, .string s, .slice al l.length cl, .slice am m.length cm] #[.int .i64 k, .bool b, .int .i64 i, .string s, slv, smv] wq ∧ wA.heap.size ≤ wq.heap.size ∧ OwnL false wq 0 SL slv (l.map some) ∧ OwnM false wq 0 SM smv ((m.map some).take j) ∧ Hid (∀ r, smv.ownBlock = some r → wA.heap.size ≤ r) ∧ Hid (∀ b, SM b → S b ∨ wA.heap.size ≤ b)) (fun e _ => m.length - (RowKit.intOf e).toNat)
      case atStart => exact ⟨0, _, _, by omega, rfl, tj, Nat.le_refl _, oj, by simpa using OwnR.nil _ _, fun r h => by simp [Value.ownBlock] at h, fun b (h : False) => h.elim⟩
      case round =>
        clear tj oj d4 d5
        obtain ⟨j, smv, SM, hj, rfl, tj, bq, oL, oj, HOM, HSM⟩ := hrel
        have d4 : wr.cell? ⟨w.heap.size, 4, none⟩ = some (.slice al l.length cl) := by rw [cell_of_block tj.b0]; rfl
        have d5 : wr.cell? ⟨w.heap.size, 5, none⟩ = some (.slice am m.length cm) := by rw [cell_of_block tj.b0]; rfl
        by_cases hjl : j < m.length
        · have y4 : (j : Int) < m.length := by omega
          obtain ⟨hSb, hks, csj, hrow, hlj⟩ := liesM_get HM.out j hjl
          obtain rfl : am = some ⟨bm, om, none⟩ := ham.at_.resolve_left (by omega)
          have hkw : ∀ b, S b → wr.heap[b]? = w.heap[b]? := fun b hb => tj.below.block b (hS b hb)
          have hrow' := hrow.keep (hkw _ hSb)
          have hlj' := V.lies_keep (R' := false) (S' := S) (fun h => h) hkw (fun _ h => h) _ hlj
          have hwj : (m[j]).2.wt ≤ 2147483648 := by have := wtM_mem (List.getElem_mem hjl); omega
          have ih := ihm m[j] (List.getElem_mem hjl) (lv + 1) S csj wr (by omega) (by omega) hlj' (fun b hb => Nat.lt_of_lt_of_le (hS b hb) tj.below.size) hwj
          have HT : Hid ((m.map some).take (j + 1) = (m.map some).take j ++ [some m[j]]) := by show _ = _; rw [List.take_succ_eq_append_getElem (by simpa using hjl), List.getElem_map]
          obtain ⟨ek, eb, ei, es, eal, enl, ecl, eam, enm, ecm, rfl⟩ := V.ten hlj'
          rcases hxj : m[j] with ⟨key, xv⟩
          rw [hxj] at ih HT hks hrow'
          obtain ⟨q, q0, q1, q2, q3, q4, q5⟩ := row7 hrow'
          have hll : ((m.map some).take j).length = j := by simp; omega
          have hbS := hS _ hSb
          clear hlj hrow hrow' hxj hlj' hwj
          go_wp2_with fail
          refine ih.mono ?_
          rintro e w3 ⟨csu, rfl, hx3, bl3⟩
          obtain ⟨uk, ub, ui, us, ual, unl, ucl, uam, unm, ucm, rfl⟩ := V.ten hx3
          have t3 := tj.grown (grown_of_below bl3) (fun r e => by cases e)
          have o3 := oj.below (keepM false) bl3
          have p3 := oL.below (keepL false) bl3
          have hw3 : w.heap.size + 3 ≤ w3.heap.size := t3.lt
          have hz3 := bl3.size
          have hown : ∀ r, smv.ownBlock = some r → wA.heap.size ≤ r ∧ r < wr.heap.size := fun r hr => ⟨HOM.out r hr, (oj.lt hr).2⟩
          have HK : Hid (∀ b, Tw S wr w3 b → 0 ≤ b ∧ b < w3.heap.size ∧ some b ≠ smv.ownBlock) := fun b hb => by
            rcases hb with hb | hb
            · have := HS.out b hb
              exact ⟨Nat.zero_le _, by omega, fun e => by have := (hown b e.symm).1; omega⟩
            · exact ⟨Nat.zero_le _, hb.2, fun e => by have := (hown b e.symm).2; omega⟩
          have tw : ∀ o, TwF w _ _ (w3.alloc o) := fun o => t3.grown (World.grownBy_alloc w3 o none) (fun r e => by cases e)
          have e5 : ∀ o, (w3.alloc o).cell? ⟨w.heap.size + 1 + 1, 5, none⟩ = some smv := fun o => by rw [cell_of_block (tw o).b2]; rfl
          have e5c : ∀ o o', ((w3.alloc o).alloc o').cell? ⟨w.heap.size + 1 + 1, 5, none⟩ = some smv := fun o o' => by rw [cell_of_block ((tw o).grown (World.grownBy_alloc _ o' none) (fun r e => by cases e)).b2]; rfl
          have e5b : ∀ o, (w3.alloc o).cell? ⟨w.heap.size, 5, none⟩ = some (.slice (some ⟨bm, om, none⟩) m.length cm) := fun o => by rw [cell_of_block (tw o).b0]; rfl
          have hq : ∀ (o : Obj) {u : Value} {p : Nat}, wr.cell? ⟨bm, p, none⟩ = some u → (w3.alloc o).cell? ⟨bm, p, none⟩ = some u := fun o u p h => ((grown_of_below bl3).trans' o).cell h (by simp)
          have q' := fun o => hq o q
          have HG : Hid (∀ (o o' : Obj) (g : Nat), (smv.ownBlock = some g ∨ ((w3.alloc o).alloc o').drew.heap.size ≤ g) → wA.heap.size ≤ g) := fun o o' g e => by
            rcases e with e | e
            · exact (hown g e).1
            · have e2 : ((w3.alloc o).alloc o').drew.heap.size = w3.heap.size + 1 + 1 := by show ((w3.alloc o).alloc o').heap.size = _; rw [alloc_size, alloc_size]
              omega
          have HS5 : Hid (∀ b, SM b ∨ Tw S wr w3 b → S b ∨ wA.heap.size ≤ b) := fun b hb => by
            rcases hb with hb | hb | hb
            · exact HSM.out b hb
            · exact .inl hb
            · exact .inr (by have := hb.1; omega)
          have HN5 : Hid (¬ (SM (w.heap.size + 1 + 1) ∨ Tw S wr w3 (w.heap.size + 1 + 1))) := fun hb => by
            rcases HS5.out _ hb with h | h
            · have := HS.out _ h; omega
            · omega
          have HNL : Hid (¬ SL (w.heap.size + 1 + 1) ∧ slv.ownBlock ≠ some (w.heap.size + 1 + 1)) := ⟨fun hb => by
            rcases HSL.out _ hb with h | h
            · have := HS.out _ h; omega
            · omega, fun e => by have := (hownl _ e).1; omega⟩
          go_wp2_with fail
          have T5 : ∀ (o o' : Obj) (w5 : World), ((w3.alloc o).alloc o').drew.grownBy w5 smv.ownBlock → TwF w _ _ w5 ∧ OwnL false w5 0 SL slv (l.map some) ∧ wA.heap.size ≤ w5.heap.size := fun o o' w5 g5 =>
            ⟨(((tw o).grown (World.grownBy_alloc _ o' none) (fun r e => by cases e)).grown (grown_drew _ none) (fun r e => by cases e)).grown g5 (fun r e => by have := (hown r e).1; omega),
              (((p3.alloc (keepL false) o).alloc (keepL false) o').drew (keepL false)).keep (keepL false) g5 (fun r e => ⟨fun h => by have := (hSl r h).2.1; have := (hown r e).1; omega, fun h => by have := (hownl r h).2; have := (hown r e).1; omega⟩),
              by have := g5.size; have e : ((w3.alloc o).alloc o').drew.heap.size = w3.heap.size + 1 + 1 := by show ((w3.alloc o).alloc o').heap.size = _; rw [alloc_size, alloc_size]
                 have := bl3.size; omega⟩
          go_region_law (refine step_push (keepM false) rfl (.tmp 54) (.tmp 63) 23 rfl 0 i1 _ 104 Tryz.underlying23 hJ.out.1 hJ.out.2.1 hJ.out.2.2.1 hJ.out.2.2.2 rfl (by decide) (by decide) smv (some (key, xv)) rfl (((o3.alloc (keepM false) _).alloc (keepM false) _).drew (keepM false)) (w3.heap.size + 1) 1 (0, 0) rfl (alloc2_new w3 _ _) rfl one7 (keepM false _ _ _ _ _ _ (fun b hb => alloc2_keep w3 _ _ (HK.out b hb).2.1) (fun _ h => h) ⟨_, rfl, hks, hx3⟩) (fun b hb => alloc2_off (HK.out b hb)) (by rw [hll]; omega) (Nat.zero_le _) ?_; intro g cap w5 o5 g5 e9; rw [hll] at o5 ⊢; obtain ⟨t5, p5, z5⟩ := T5 _ _ w5 g5; have hgg := HG.out _ _ g e9; have e6 : w5.cell? ⟨w.heap.size + 1 + 1, 5, none⟩ = some smv := by { rw [cell_of_block t5.b2]; rfl }; have e7 : w5.frozen? ⟨w.heap.size + 1 + 1, 5, none⟩ = false := frozen_of_block t5.b2 5)
          all_goals go_wp2_with fail
          all_goals go_roundw
          all_goals first
            | exact ⟨j + 1, _, _, by omega, by go_num, t5.set 5 _ rfl, by simpa using z5, p5.set0 (keepL false) HNL.out.1 HNL.out.2 _ _, by rw [HT.out]; exact o5.set0 (keepM false) HN5.out (fun e => by simp [Value.ownBlock] at e; omega) _ _, fun r e => by (simp [Value.ownBlock] at e; omega), HS5.out⟩
            | (simp [RowKit.intOf]; omega)
        · obtain rfl : j = m.length := by omega
          have hlt : (m.map some).take m.length = m.map some := by rw [List.take_of_length_le (by simp)]
          rw [hlt] at oj
          clear hlt
          have y4 : ¬ (m.length : Int) < m.length := by omega
          have hown : ∀ r, smv.ownBlock = some r → wA.heap.size ≤ r ∧ r < wr.heap.size := fun r hr => ⟨HOM.out r hr, (oj.lt hr).2⟩
          have hw3 := tj.lt
          obtain ⟨sa, sc, sb, so, rfl, hdl, hLs⟩ := own_listL0 (T := fun b => S b ∨ (w.heap.size + 3 ≤ b ∧ b < wr.heap.size)) oL (fun b hb => (HSL.out b hb).imp id (fun h => ⟨h, (oL.off b hb).2.1⟩)) (fun g hg => .inr ⟨(hownl g hg).1, (oL.lt hg).2⟩)
          obtain ⟨ta, tc, tb', tq, rfl, hdm, hMs⟩ := own_listM0 (T := fun b => S b ∨ (w.heap.size + 3 ≤ b ∧ b < wr.heap.size)) oj (fun b hb => (HSM.out b hb).imp id (fun h => ⟨by omega, (oj.off b hb).2.1⟩)) (fun g hg => .inr ⟨by have := (hown g hg).1; omega, (hown g hg).2⟩)
          have HLs : Hid (liesL false wr (fun b => S b ∨ (w.heap.size + 3 ≤ b ∧ b < wr.heap.size)) l sb so) := hLs
          have HMs : Hid (liesM false wr (fun b => S b ∨ (w.heap.size + 3 ≤ b ∧ b < wr.heap.size)) m tb' tq) := hMs
          have x0 : wr.cell? ⟨w.heap.size + 1 + 1, 0, none⟩ = some (.int .i64 k) := by rw [cell_of_block tj.b2]; rfl
          have x1 : wr.cell? ⟨w.heap.size + 1 + 1, 1, none⟩ = some (.bool b) := by rw [cell_of_block tj.b2]; rfl
          have x2 : wr.cell? ⟨w.heap.size + 1 + 1, 2, none⟩ = some (.int .i64 i) := by rw [cell_of_block tj.b2]; rfl
          have x3 : wr.cell? ⟨w.heap.size + 1 + 1, 3, none⟩ = some (.string s) := by rw [cell_of_block tj.b2]; rfl
          have x4 : wr.cell? ⟨w.heap.size + 1 + 1, 4, none⟩ = some (.slice sa l.length sc) := by rw [cell_of_block tj.b2]; rfl
          have x5 : wr.cell? ⟨w.heap.size + 1 + 1, 5, none⟩ = some (.slice ta m.length tc) := by rw [cell_of_block tj.b2]; rfl
          have r0 : wr.cell? ⟨w.heap.size + 1, 0, none⟩ = some (.int .i64 0) := by rw [cell_of_block tj.b1]; rfl
          have r1 : wr.cell? ⟨w.heap.size + 1, 1, none⟩ = some (.bool false) := by rw [cell_of_block tj.b1]; rfl
          have r2 : wr.cell? ⟨w.heap.size + 1, 2, none⟩ = some (.int .i64 0) := by rw [cell_of_block tj.b1]; rfl
          have r3 : wr.cell? ⟨w.heap.size + 1, 3, none⟩ = some (.string ⟨#[]⟩) := by rw [cell_of_block tj.b1]; rfl
          have r4 : wr.cell? ⟨w.heap.size + 1, 4, none⟩ = some (.slice none 0 0) := by rw [cell_of_block tj.b1]; rfl
          have r5 : wr.cell? ⟨w.heap.size + 1, 5, none⟩ = some (.slice none 0 0) := by rw [cell_of_block tj.b1]; rfl
          have rf : ∀ i, wr.frozen? ⟨w.heap.size + 1, i, none⟩ = false := frozen_of_block tj.b1
          have hB7 := tj.below
          clear oL oj tj hLs hMs hownl hSl hown HL HM ihl ihm
          go_wp2_with fail
          (try simp only [Exit.inBlock, Exit.then])
          refine bodyPost_ret (v := .agg #[.int .i64 k, .bool b, .int .i64 i, .string s, .slice sa l.length sc, .slice ta m.length tc]) ?_ rfl ?_
          · rw [results_cell1 rfl]
            go_simp
          · refine ⟨[.int .i64 k, .bool b, .int .i64 i, .string s, .slice sa l.length sc, .slice ta m.length tc], rfl, ?_, Below.set6 hB7 (by omega) _ _ _ _ _ _ _ _ _ _ _ _⟩
            have hf := lies_S (b := b) hk hi hs hdl hdm HLs.out HMs.out
            exact V.lies_keep (fun h => h) (fun _ _ => rfl) (fun x hx => hx.imp id (fun h => ⟨by have := h.1; omega, by simp only [size_set1]; exact h.2⟩)) _ (lies_set6T hf (fun h => by
              rcases h with h | h
              · have := HS.out _ h; omega
              · have := h.1; omega) _ _ _ _ _ _ _ _ _ _ _ _)
end Go.Proofs.YtjgbjhahmgegiaaGreatDoor
