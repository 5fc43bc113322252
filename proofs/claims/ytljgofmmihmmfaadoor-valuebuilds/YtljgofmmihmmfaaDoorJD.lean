/- joined: BldQ RclA RbdA -/
import Derived.Test.YtljgofmmihmmfaaDoorJA
import Derived.Test.YtljgofmmihmmfaaDoorJB
import Derived.Test.YtljgofmmihmmfaaDoorTwinB
import Derived.Test.YtljgofmmihmmfaaDoorJC
import Derived.Test.YtljgofmmihmmfaaDoorRfE
import Derived.Test.YtljgofmmihmmfaaDoorSizA
import Derived.Test.YtljgofmmihmmfaaDoorQSub
/- What Build answers: one list in the keys' order. -/
set_option linter.unusedSimpArgs false
set_option linter.unusedVariables false
namespace Go.Proofs.YtljgofmmihmmfaaDoor
open Go.RowKit Go.Lib

def leM (a b : Mem) : Bool := !ltB b.1 a.1
def srtM (l : List Mem) : List Mem := l.mergeSort leM
theorem srtM_perm (l : List Mem) : (srtM l).Perm l := List.mergeSort_perm _ _
theorem srtM_wk (l : List Mem) : Wkl (srtM l) := by
  have h := List.pairwise_mergeSort (le := leM) (fun a b c h1 h2 => by
    simp only [leM, Bool.not_eq_true'] at *
    exact ltB_ntrans h2 h1) (fun a b => by
    simp only [leM]
    cases h1 : ltB b.1 a.1 with
    | false => simp
    | true =>
      have : ltB a.1 b.1 = false := by
        rw [Bool.eq_false_iff]
        intro h2
        have := ltB_trans h1 h2
        rw [ltB_irr] at this
        cases this
      simp [this]) l
  exact h.imp fun {a b} h1 => by simpa [leM] using h1

/-- fit to be built of: each value taken, each key UTF-8, no key twice -/
structure Fine (l : List Mem) : Prop where
  ok : ∀ x ∈ l, okV x.2 = true ∧ utfB x.1 = true
  ne : l.Pairwise (fun a b => ¬ a.1.toList = b.1.toList)
theorem Fine.perm {l l' : List Mem} (h : Fine l) (hp : l.Perm l') : Fine l' :=
  ⟨fun x hx => h.ok x (hp.mem_iff.2 hx), (hp.pairwise_iff fun {x y} h e => h e.symm).1 h.ne⟩
theorem fine_srt {l : List Mem} (h : Fine l) (hw : Wkl l) : Srt l := by
  have := List.Pairwise.and hw h.ne
  exact this.imp fun {a b} h1 => ltB_tri h1.1 (fun e => h1.2 e.symm)
theorem srt_ne {l : List Mem} (h : Srt l) : l.Pairwise (fun a b => ¬ a.1.toList = b.1.toList) := h.imp fun {a b} h1 e => by
  have h2 := (ltB_cmp a.1 b.1).1 h1
  have h3 := (cmpS_zero a.1 b.1).2 e
  omega
theorem srt_uniq : ∀ {l1 l2 : List Mem}, l1.Perm l2 → Srt l1 → Wkl l2 → l1 = l2
  | [], l2, hp, _, _ => (List.Perm.nil_eq hp)
  | a :: t1, [], hp, _, _ => by have := hp.length_eq; simp at this
  | a :: t1, b :: t2, hp, h1, h2 => by
    have e : a = b := by
      have ha : a ∈ b :: t2 := hp.mem_iff.1 (by simp)
      have hb : b ∈ a :: t1 := hp.mem_iff.2 (by simp)
      rcases List.mem_cons.1 ha with e | ha
      · exact e
      rcases List.mem_cons.1 hb with e | hb
      · exact e.symm
      have k1 := (List.pairwise_cons.1 h1).1 b hb
      have k2 := (List.pairwise_cons.1 h2).1 a ha
      rw [k1] at k2
      cases k2
    subst e
    rw [srt_uniq (hp.cons_inv) (List.pairwise_cons.1 h1).2 (List.pairwise_cons.1 h2).2]
theorem rise_utf {l : List Mem} (h : riseB l = true) : ∀ x ∈ l, utfB x.1 = true := by
  intro x hx
  obtain ⟨j, hj, rfl⟩ := List.getElem_of_mem hx
  have h0 : ∀ j, j < l.length → okAt l j = true := by
    simpa only [riseB, List.all_eq_true, List.mem_range] using h
  have := h0 j hj
  rw [okAt, keyAt_eq hj] at this
  exact (Bool.and_eq_true _ _ ▸ this).1
theorem mapE_bad {l : List Mem} (h : riseB l = false) : mapE l = 20 := by
  have hg : goodB 5 false 0 ⟨#[]⟩ 0 l = false := by simp [goodB, h]
  rw [mapE, chkE40, chkV]
  simp [entF, hg]
theorem mapV_bad {l : List Mem} (h : mapE l = 20) : mapV l = nullV := by rw [mapV, if_neg (by rw [h]; omega)]

/-- what Build answers -/
def BvPost (l : List Mem) (w : World) (e : Ending) (w' : World) : Prop :=
  (¬ Fine l ∧ VePost nullV 20 w e w') ∨ (Fine l ∧ VePost (mapV (srtM l)) (mapE (srtM l)) w e w')
theorem bv_of_bld {l : List Mem} {w w' : World} {e : Ending} (h : BldPost l w e w') : BvPost l w e w' := by
  rcases h with ⟨h1, h2⟩ | ⟨h1, l', hp, hw, h2⟩
  · refine .inl ⟨fun hf => ?_, h2⟩
    have : bldOk l = true := by rw [bldOk, List.all_eq_true]; exact fun x hx => (hf.ok x hx).1
    rw [h1] at this
    cases this
  · by_cases hf : Fine l
    · have hs : srtM l = l' := srt_uniq ((srtM_perm l).trans hp.symm) (fine_srt (hf.perm (srtM_perm l).symm) (srtM_wk l)) hw
      rw [← hs] at h2
      exact .inr ⟨hf, h2⟩
    · have hr : riseB l' = false := by
        rw [Bool.eq_false_iff]
        intro hr
        refine hf (Fine.perm ⟨fun x hx => ⟨?_, rise_utf hr x hx⟩, srt_ne (srt_rise hr)⟩ hp)
        exact (List.all_eq_true.1 h1) x (hp.mem_iff.1 hx)
      rw [mapV_bad (mapE_bad hr), mapE_bad hr] at h2
      exact .inl ⟨hf, h2⟩
end Go.Proofs.YtljgofmmihmmfaaDoor

/- the document's clone. -/
set_option linter.unusedSimpArgs false
set_option linter.unusedVariables false
namespace Go.Proofs.YtljgofmmihmmfaaDoor
open Go.RowKit

/-- a row of one's own, as a list -/
theorem own_listL {w : World} {N : Nat} {S : Nat → Prop} {v : Value} {l : List V} (h : OwnL false w N S v (l.map some)) : ∃ a c b o, v = .slice a l.length c ∧ Headed a l.length c b o ∧ liesL false w (From N w) l b o := by
  have h' := h
  obtain ⟨⟨xs, h1, h2⟩, h3⟩ := h'
  rcases h1.2 with ⟨rfl, e⟩ | ⟨g, cap, cur, rfl, _⟩
  · have e0 : l.length = 0 := by simpa using e
    have : l = [] := List.length_eq_zero_iff.1 e0
    subst this
    exact ⟨none, 0, 0, 0, rfl, headed_nil, by rw [liesL]; trivial⟩
  · have hle := h.le
    have hlt := h.lt (g := g) rfl
    simp only [List.length_map] at hle ⊢
    refine ⟨_, cap, g, 0, rfl, ⟨hle.1, hle.2, .inr rfl, fun h => by cases h⟩, liesL_mk fun j hj => ⟨hlt, ?_⟩⟩
    obtain ⟨cs, k1, k2⟩ := h.at (by simp) j (by simpa using hj)
    rw [List.getElem_map] at k2
    exact ⟨cs, k1, V.lies_keep (fun h => h) (fun _ _ => rfl) (fun b hb => ⟨(h.off b hb).1, (h.off b hb).2.1⟩) _ k2⟩
theorem own_listM {w : World} {N : Nat} {S : Nat → Prop} {v : Value} {l : List Mem} (h : OwnM false w N S v (l.map some)) : ∃ a c b o, v = .slice a l.length c ∧ Headed a l.length c b o ∧ liesM false w (From N w) l b o := by
  have h' := h
  obtain ⟨⟨xs, h1, h2⟩, h3⟩ := h'
  rcases h1.2 with ⟨rfl, e⟩ | ⟨g, cap, cur, rfl, _⟩
  · have e0 : l.length = 0 := by simpa using e
    have : l = [] := List.length_eq_zero_iff.1 e0
    subst this
    exact ⟨none, 0, 0, 0, rfl, headed_nil, by rw [liesM]; trivial⟩
  · have hle := h.le
    have hlt := h.lt (g := g) rfl
    simp only [List.length_map] at hle ⊢
    refine ⟨_, cap, g, 0, rfl, ⟨hle.1, hle.2, .inr rfl, fun h => by cases h⟩, liesM_mk fun j hj => ?_⟩
    obtain ⟨cs, k1, k2⟩ := h.at (by simp) j (by simpa using hj)
    rw [List.getElem_map] at k2
    obtain ⟨cs', rfl, hks, k3⟩ := k2
    exact ⟨hlt, hks, cs', k1, V.lies_keep (fun h => h) (fun _ _ => rfl) (fun b hb => ⟨(h.off b hb).1, (h.off b hb).2.1⟩) _ k3⟩

set_option maxHeartbeats 4000000 in
set_option maxRecDepth 100000 in
theorem rcl_any (v : V) : ∀ (S : Nat → Prop) (cs : List Value) (w : World), v.lies false w S cs → (∀ b, S b → b < w.heap.size) → v.wt ≤ 2147483648 →
    Calls Tryd.prog 56 #[.agg cs.toArray] w (AnPost v w) := by
  induction v using V.ind_v with
  | h k b i s l m ihl ihm =>
  intro S cs w hl hS hwt
  rw [V.lies] at hl
  obtain ⟨al, cl, bl, ol, am, cm, bm, om, rfl, hk, hi, hs, hal, ham, hl1, hm1, _⟩ := hl
  have HL : Hid (liesL false w S l bl ol) := hl1
  have HM : Hid (liesM false w S m bm om) := hm1
  clear hl1 hm1
  rw [V.wt] at hwt
  have hlm := wtL_len l
  have hmm := wtM_len m
  obtain ⟨i0, hi0, hz0, hz1, hz2⟩ := info_parts info25
  obtain ⟨i1, hi1, hy0, hy1, hy2⟩ := info_parts info44
  have hI : Hid (Tryd.prog.info? 25 = some i0 ∧ i0.zero = some (.agg #[.int .i64 0, .bool false, .int .i64 0, .string ⟨#[]⟩, .slice none 0 0, .slice none 0 0]) ∧ i0.size = 6 ∧ i0.bytes = 88) := ⟨hi0, hz0, hz1, hz2⟩
  have hJ : Hid (Tryd.prog.info? 44 = some i1 ∧ i1.zero = some (.agg #[.string ⟨#[]⟩, .int .i64 0, .bool false, .int .i64 0, .string ⟨#[]⟩, .slice none 0 0, .slice none 0 0]) ∧ i1.size = 7 ∧ i1.bytes = 104) := ⟨hi1, hy0, hy1, hy2⟩
  clear hi0 hz0 hz1 hz2 hi1 hy0 hy1 hy2
  have t0 : TwF w #[.int .i64 k, .bool b, .int .i64 i, .string s, .slice al l.length cl, .slice am m.length cm] #[.int .i64 k, .bool b, .int .i64 i, .string s, .slice none 0 0, .slice none 0 0]
      (((w.alloc (.cells #[.int .i64 k, .bool b, .int .i64 i, .string s, .slice al l.length cl, .slice am m.length cm] 25)).alloc (.cells #[.int .i64 0, .bool false, .int .i64 0, .string ⟨#[]⟩, .slice none 0 0, .slice none 0 0] 25)).alloc (.cells #[.int .i64 k, .bool b, .int .i64 i, .string s, .slice none 0 0, .slice none 0 0] 25)) := by
    exact ⟨three_below w _ _ _, (three_allocs w _ _ _).1, (three_allocs w _ _ _).2.1, (three_allocs w _ _ _).2.2⟩
  go_enter Tryd.func56, Tryd.ntmps56
  go_wp2_with fail
  go_loopw [4] (fun e wr => ∃ (j : Nat) (slv : Value) (SL : Nat → Prop), j ≤ l.length ∧ e = .int .i64 (j : Int) ∧ TwF w #[.int .i64 k, .bool b, .int .i64 i, .string s, .slice al l.length cl, .slice am m.length cm] #[.int .i64 k, .bool b, .int .i64 i, .string s, slv, .slice none 0 0] wr ∧ OwnL false wr (w.heap.size + 3) SL slv ((l.map some).take j)) (fun e _ => l.length - (RowKit.intOf e).toNat)
  case atStart => exact ⟨0, _, _, by omega, rfl, t0, by simpa using OwnR.nil _ _⟩
  case round =>
    clear t0
    obtain ⟨j, slv, SL, hj, rfl, tj, oj⟩ := hrel
    have d4 : wr.cell? ⟨w.heap.size, 4, none⟩ = some (.slice al l.length cl) := by rw [cell_of_block tj.b0]; rfl
    have d5 : wr.cell? ⟨w.heap.size, 5, none⟩ = some (.slice am m.length cm) := by rw [cell_of_block tj.b0]; rfl
    by_cases hjl : j < l.length
    · have y1 : (j : Int) < l.length := by omega
      obtain ⟨hSb, csj, hrow, hlj⟩ := liesL_get HL.out j hjl
      obtain rfl : al = some ⟨bl, ol, none⟩ := hal.at_.resolve_left (by omega)
      have hkw : ∀ b, S b → wr.heap[b]? = w.heap[b]? := fun b hb => tj.below.block b (hS b hb)
      have hrow' := hrow.keep (hkw _ hSb)
      have hlj' := V.lies_keep (R' := false) (S' := S) (fun h => h) hkw (fun _ h => h) _ hlj
      have hwj : (l[j]).wt ≤ 2147483648 := by have := wtL_mem (List.getElem_mem hjl); omega
      have ih := ihl l[j] (List.getElem_mem hjl) S csj wr hlj' (fun b hb => Nat.lt_of_lt_of_le (hS b hb) tj.below.size) hwj
      have HT : Hid ((l.map some).take (j + 1) = (l.map some).take j ++ [some l[j]]) := by show _ = _; rw [List.take_succ_eq_append_getElem (by simpa using hjl), List.getElem_map]
      obtain ⟨ek, eb, ei, es, eal, enl, ecl, eam, enm, ecm, rfl⟩ := V.ten hlj'
      obtain ⟨q0, q1, q2, q3, q4, q5⟩ := row6 hrow'
      have hll : ((l.map some).take j).length = j := by simp; omega
      obtain ⟨xv, hxv⟩ : ∃ xv, l[j] = xv := ⟨_, rfl⟩
      rw [hxv] at ih HT
      clear hlj hrow hrow' hlj' hxv hwj
      go_wp2_with fail
      refine ih.mono ?_
      rintro e w3 ⟨csu, rfl, hx3, bl3⟩
      obtain ⟨uk, ub, ui, us, ual, unl, ucl, uam, unm, ucm, rfl⟩ := V.ten hx3
      have t3 := tj.grown (grown_of_below bl3) (fun r e => by cases e)
      have o3 := oj.below (keepL false) bl3
      have e4 : ∀ o, (w3.alloc o).cell? ⟨w.heap.size + 1 + 1, 4, none⟩ = some slv := fun o => by rw [cell_of_block (t3.grown (World.grownBy_alloc w3 o none) (fun r e => by cases e)).b2]; rfl
      have hw3 : w.heap.size + 3 ≤ w3.heap.size := t3.lt
      have hown : ∀ r, slv.ownBlock = some r → w.heap.size + 3 ≤ r ∧ r < wr.heap.size := fun r hr => oj.lt hr
      have HK : Hid (∀ b, wr.heap.size ≤ b ∧ b < w3.heap.size → w.heap.size + 3 ≤ b ∧ b < w3.heap.size ∧ some b ≠ slv.ownBlock) := fun b hb => ⟨by have := tj.lt; omega, hb.2, fun e => by have := (hown b e.symm).2; omega⟩
      go_wp2_with (at_builtin; go_loud (refine wpl_push (keepL false) _ rfl (.tmp 31) (.tmp 33) 22 rfl (w.heap.size + 3) i0 _ 88 Tryd.underlying22 hI.out.1 hI.out.2.1 hI.out.2.2.1 hI.out.2.2.2 rfl (by decide) (by decide) slv (some xv) rfl ((o3.alloc (keepL false) _).alloc (keepL false) _) (w3.heap.size + 1) 1 (0, 0) rfl (alloc2_new w3 _ _) rfl one6 (keepL false _ _ _ _ _ _ (fun b hb => alloc2_keep w3 _ _ hb.2) (fun _ h => h) hx3) (fun b hb => alloc2_off (HK.out b hb)) (by rw [hll]; omega) (by rw [alloc_size, alloc_size]; omega) ?_))
      intro g cap w5 o5 g5 e5
      have t5 := ((t3.grown (World.grownBy_alloc w3 _ none) (fun r e => by cases e)).grown (World.grownBy_alloc _ _ none) (fun r e => by cases e)).grown g5 (fun r e => (hown r e).1)
      have e6 : w5.cell? ⟨w.heap.size + 1 + 1, 4, none⟩ = some slv := by rw [cell_of_block t5.b2]; rfl
      have e7 : w5.frozen? ⟨w.heap.size + 1 + 1, 4, none⟩ = false := frozen_of_block t5.b2 4
      go_wp2_with fail
      go_roundw
      case rel => exact ⟨j + 1, _, _, by omega, by go_num, t5.set 4 _ rfl, by rw [HT.out]; exact o5.set (keepL false) (by omega) _ _⟩
      case measure => simp [RowKit.intOf]; omega
    · obtain rfl : j = l.length := by omega
      have hlt : (l.map some).take l.length = l.map some := by rw [List.take_of_length_le (by simp)]
      rw [hlt] at oj
      clear hlt
      have y1 : ¬ (l.length : Int) < l.length := by omega
      rename World => wA
      have hownl : ∀ r, slv.ownBlock = some r → w.heap.size + 3 ≤ r ∧ r < wA.heap.size := fun r hr => oj.lt hr
      have hSl := oj.off
      have hA := tj.lt
      have bA := tj.below
      go_wp2_with fail
      go_loopw [6] (fun e wq => ∃ (j : Nat) (smv : Value) (SM : Nat → Prop), j ≤ m.length ∧ e = .int .i64 (j : Int) ∧ TwF w #[.int .i64 k, .bool b, .int .i64 i, .string s, .slice al l.length cl, .slice am m.length cm] #[.int .i64 k, .bool b, .int .i64 i, .string s, slv, smv] wq ∧ wA.heap.size ≤ wq.heap.size ∧ OwnL false wq (w.heap.size + 3) SL slv (l.map some) ∧ OwnM false wq wA.heap.size SM smv ((m.map some).take j)) (fun e _ => m.length - (RowKit.intOf e).toNat)
      case atStart => exact ⟨0, _, _, by omega, rfl, tj, Nat.le_refl _, oj, by simpa using OwnR.nil _ _⟩
      case round =>
        clear tj oj d4 d5
        obtain ⟨j, smv, SM, hj, rfl, tj, bq, oL, oj⟩ := hrel
        have d4 : wr.cell? ⟨w.heap.size, 4, none⟩ = some (.slice al l.length cl) := by rw [cell_of_block tj.b0]; rfl
        have d5 : wr.cell? ⟨w.heap.size, 5, none⟩ = some (.slice am m.length cm) := by rw [cell_of_block tj.b0]; rfl
        by_cases hjl : j < m.length
        · have y1 : (j : Int) < m.length := by omega
          obtain ⟨hSb, hks, csj, hrow, hlj⟩ := liesM_get HM.out j hjl
          obtain rfl : am = some ⟨bm, om, none⟩ := ham.at_.resolve_left (by omega)
          have hkw : ∀ b, S b → wr.heap[b]? = w.heap[b]? := fun b hb => tj.below.block b (hS b hb)
          have hrow' := hrow.keep (hkw _ hSb)
          have hlj' := V.lies_keep (R' := false) (S' := S) (fun h => h) hkw (fun _ h => h) _ hlj
          have hwj : (m[j]).2.wt ≤ 2147483648 := by have := wtM_mem (List.getElem_mem hjl); omega
          have ih := ihm m[j] (List.getElem_mem hjl) S csj wr hlj' (fun b hb => Nat.lt_of_lt_of_le (hS b hb) tj.below.size) hwj
          have HT : Hid ((m.map some).take (j + 1) = (m.map some).take j ++ [some m[j]]) := by show _ = _; rw [List.take_succ_eq_append_getElem (by simpa using hjl), List.getElem_map]
          obtain ⟨ek, eb, ei, es, eal, enl, ecl, eam, enm, ecm, rfl⟩ := V.ten hlj'
          rcases hxj : m[j] with ⟨key, xv⟩
          rw [hxj] at ih HT hks hrow'
          obtain ⟨q, q0, q1, q2, q3, q4, q5⟩ := row7 hrow'
          have hll : ((m.map some).take j).length = j := by simp; omega
          have hbS := hS _ hSb
          clear hlj hrow hrow' hxj hlj' hwj
          go_wp2_with fail
          refine ih.mono ?_
          rintro e w3 ⟨csu, rfl, hx3, bl3⟩
          obtain ⟨uk, ub, ui, us, ual, unl, ucl, uam, unm, ucm, rfl⟩ := V.ten hx3
          have t3 := tj.grown (grown_of_below bl3) (fun r e => by cases e)
          have o3 := oj.below (keepM false) bl3
          have p3 := oL.below (keepL false) bl3
          have hw3 : w.heap.size + 3 ≤ w3.heap.size := t3.lt
          have hown : ∀ r, smv.ownBlock = some r → wA.heap.size ≤ r ∧ r < wr.heap.size := fun r hr => oj.lt hr
          have HK : Hid (∀ b, wr.heap.size ≤ b ∧ b < w3.heap.size → wA.heap.size ≤ b ∧ b < w3.heap.size ∧ some b ≠ smv.ownBlock) := fun b hb => ⟨by omega, hb.2, fun e => by have := (hown b e.symm).2; omega⟩
          have tw : ∀ o, TwF w _ _ (w3.alloc o) := fun o => t3.grown (World.grownBy_alloc w3 o none) (fun r e => by cases e)
          have e5 : ∀ o, (w3.alloc o).cell? ⟨w.heap.size + 1 + 1, 5, none⟩ = some smv := fun o => by rw [cell_of_block (tw o).b2]; rfl
          have e5c : ∀ o o', ((w3.alloc o).alloc o').cell? ⟨w.heap.size + 1 + 1, 5, none⟩ = some smv := fun o o' => by rw [cell_of_block ((tw o).grown (World.grownBy_alloc _ o' none) (fun r e => by cases e)).b2]; rfl
          have e5b : ∀ o, (w3.alloc o).cell? ⟨w.heap.size, 5, none⟩ = some (.slice (some ⟨bm, om, none⟩) m.length cm) := fun o => by rw [cell_of_block (tw o).b0]; rfl
          have hq : ∀ (o : Obj) {u : Value} {p : Nat}, wr.cell? ⟨bm, p, none⟩ = some u → (w3.alloc o).cell? ⟨bm, p, none⟩ = some u := fun o u p h => ((grown_of_below bl3).trans' o).cell h (by simp)
          have q' := fun o => hq o q
          go_wp2_with fail
          have T5 : ∀ (o o' : Obj) (w5 : World), ((w3.alloc o).alloc o').drew.grownBy w5 smv.ownBlock → TwF w _ _ w5 ∧ OwnL false w5 (w.heap.size + 3) SL slv (l.map some) ∧ wA.heap.size ≤ w5.heap.size := fun o o' w5 g5 =>
            ⟨(((tw o).grown (World.grownBy_alloc _ o' none) (fun r e => by cases e)).grown (grown_drew _ none) (fun r e => by cases e)).grown g5 (fun r e => by have := (hown r e).1; omega),
              (((p3.alloc (keepL false) o).alloc (keepL false) o').drew (keepL false)).keep (keepL false) g5 (fun r e => ⟨fun h => by have := (hSl r h).2.1; have := (hown r e).1; omega, fun h => by have := (hownl r h).2; have := (hown r e).1; omega⟩),
              by have := g5.size; have e : ((w3.alloc o).alloc o').drew.heap.size = w3.heap.size + 1 + 1 := by show ((w3.alloc o).alloc o').heap.size = _; rw [alloc_size, alloc_size]
                 have := bl3.size; omega⟩
          go_region_law (refine step_push (keepM false) rfl (.tmp 51) (.tmp 60) 23 rfl wA.heap.size i1 _ 104 Tryd.underlying23 hJ.out.1 hJ.out.2.1 hJ.out.2.2.1 hJ.out.2.2.2 rfl (by decide) (by decide) smv (some (key, xv)) rfl (((o3.alloc (keepM false) _).alloc (keepM false) _).drew (keepM false)) (w3.heap.size + 1) 1 (0, 0) rfl (alloc2_new w3 _ _) rfl one7 (keepM false _ _ _ _ _ _ (fun b hb => alloc2_keep w3 _ _ hb.2) (fun _ h => h) ⟨_, rfl, hks, hx3⟩) (fun b hb => alloc2_off (HK.out b hb)) (by rw [hll]; omega) (by show wA.heap.size ≤ ((w3.alloc _).alloc _).heap.size; rw [alloc_size, alloc_size]; have := bl3.size; omega) ?_; intro g cap w5 o5 g5 e5; rw [hll] at o5 ⊢; obtain ⟨t5, p5, z5⟩ := T5 _ _ w5 g5; have e6 : w5.cell? ⟨w.heap.size + 1 + 1, 5, none⟩ = some smv := by { rw [cell_of_block t5.b2]; rfl }; have e7 : w5.frozen? ⟨w.heap.size + 1 + 1, 5, none⟩ = false := frozen_of_block t5.b2 5)
          all_goals go_wp2_with fail
          all_goals go_roundw
          all_goals first
            | exact ⟨j + 1, _, _, by omega, by go_num, t5.set 5 _ rfl, by simpa using z5, p5.set (keepL false) (by omega) _ _, by rw [HT.out]; exact o5.set (keepM false) (by omega) _ _⟩
            | (simp [RowKit.intOf]; omega)
        · obtain rfl : j = m.length := by omega
          have hlt : (m.map some).take m.length = m.map some := by rw [List.take_of_length_le (by simp)]
          rw [hlt] at oj
          clear hlt
          have y1 : ¬ (m.length : Int) < m.length := by omega
          have hown : ∀ r, smv.ownBlock = some r → wA.heap.size ≤ r ∧ r < wr.heap.size := fun r hr => oj.lt hr
          have hw3 := tj.lt
          obtain ⟨sa, sc, sb, so, rfl, hdl, hLs⟩ := own_listL oL
          obtain ⟨ta, tc, tb', tq, rfl, hdm, hMs⟩ := own_listM oj
          have HLs : Hid (liesL false wr (From (w.heap.size + 3) wr) l sb so) := hLs
          have HMs : Hid (liesM false wr (From (w.heap.size + 3) wr) m tb' tq) := liesM_keep (fun h => h) (fun _ _ => rfl) (fun x hx => ⟨by have := hx.1; omega, hx.2⟩) _ hMs
          have x0 : wr.cell? ⟨w.heap.size + 1 + 1, 0, none⟩ = some (.int .i64 k) := by rw [cell_of_block tj.b2]; rfl
          have x1 : wr.cell? ⟨w.heap.size + 1 + 1, 1, none⟩ = some (.bool b) := by rw [cell_of_block tj.b2]; rfl
          have x2 : wr.cell? ⟨w.heap.size + 1 + 1, 2, none⟩ = some (.int .i64 i) := by rw [cell_of_block tj.b2]; rfl
          have x3 : wr.cell? ⟨w.heap.size + 1 + 1, 3, none⟩ = some (.string s) := by rw [cell_of_block tj.b2]; rfl
          have x4 : wr.cell? ⟨w.heap.size + 1 + 1, 4, none⟩ = some (.slice sa l.length sc) := by rw [cell_of_block tj.b2]; rfl
          have x5 : wr.cell? ⟨w.heap.size + 1 + 1, 5, none⟩ = some (.slice ta m.length tc) := by rw [cell_of_block tj.b2]; rfl
          have r0 : wr.cell? ⟨w.heap.size + 1, 0, none⟩ = some (.int .i64 0) := by rw [cell_of_block tj.b1]; rfl
          have r1 : wr.cell? ⟨w.heap.size + 1, 1, none⟩ = some (.bool false) := by rw [cell_of_block tj.b1]; rfl
          have r2 : wr.cell? ⟨w.heap.size + 1, 2, none⟩ = some (.int .i64 0) := by rw [cell_of_block tj.b1]; rfl
          have r3 : wr.cell? ⟨w.heap.size + 1, 3, none⟩ = some (.string ⟨#[]⟩) := by rw [cell_of_block tj.b1]; rfl
          have r4 : wr.cell? ⟨w.heap.size + 1, 4, none⟩ = some (.slice none 0 0) := by rw [cell_of_block tj.b1]; rfl
          have r5 : wr.cell? ⟨w.heap.size + 1, 5, none⟩ = some (.slice none 0 0) := by rw [cell_of_block tj.b1]; rfl
          have rf : ∀ i, wr.frozen? ⟨w.heap.size + 1, i, none⟩ = false := frozen_of_block tj.b1
          have hB7 := tj.below
          clear oL oj tj hLs hMs hownl hSl hown HL HM ihl ihm
          go_wp2_with fail
          (try simp only [Exit.inBlock, Exit.then])
          refine bodyPost_ret (v := .agg #[.int .i64 k, .bool b, .int .i64 i, .string s, .slice sa l.length sc, .slice ta m.length tc]) ?_ rfl ?_
          · rw [results_cell1 rfl]
            go_simp
          · refine ⟨[.int .i64 k, .bool b, .int .i64 i, .string s, .slice sa l.length sc, .slice ta m.length tc], rfl, ?_, Below.set6 hB7 (by omega) _ _ _ _ _ _ _ _ _ _ _ _⟩
            have hf := lies_S (b := b) hk hi hs hdl hdm HLs.out HMs.out
            exact V.lies_keep (fun h => h) (fun _ _ => rfl) (fun x hx => ⟨by have := hx.1; omega, hx.2⟩) _ (lies_set6A hf (show w.heap.size + 1 < w.heap.size + 3 by omega) _ _ _ _ _ _ _ _ _ _ _ _)
theorem rclone_any (v : V) (R : Bool) (S : Nat → Prop) (cs : List Value) (w : World) (hv : v.lies R w S cs) (hS : ∀ b, S b → b < w.heap.size) (hwt : v.wt ≤ 2147483648) : Calls Tryd.prog 56 #[.agg cs.toArray] w (AnPost v w) :=
  rcl_any v S cs w (V.lies_keep (fun h => by cases h) (fun _ _ => rfl) (fun _ h => h) _ hv) hS hwt
end Go.Proofs.YtljgofmmihmmfaaDoor

/- the document's Build. -/
set_option linter.unusedSimpArgs false
set_option linter.unusedVariables false
namespace Go.Proofs.YtljgofmmihmmfaaDoor
open Go.RowKit Go.Lib

/-- the two blocks of the call: the answer, the map that is made -/
structure RbF (w : World) (M : Nat) (smv : Value) (wr : World) : Prop where
  lt : w.heap.size < M
  below : Below w.heap.size w wr
  b0 : wr.heap[w.heap.size]? = some (.cells #[.int .i64 0, .bool false, .int .i64 0, .string ⟨#[]⟩, .slice none 0 0, .slice none 0 0] 25 (0, 0))
  b1 : wr.heap[M]? = some (.cells #[.int .i64 5, .bool false, .int .i64 0, .string ⟨#[]⟩, .slice none 0 0, smv] 25 (0, 0))
theorem RbF.sz {w : World} {M : Nat} {smv : Value} {wr : World} (h : RbF w M smv wr) : M + 1 ≤ wr.heap.size := (Array.getElem?_eq_some_iff.1 h.b1).1
theorem RbF.grown {w : World} {M : Nat} {smv : Value} {wr wr' : World} (h : RbF w M smv wr) {row : Option Nat} (g : wr.grownBy wr' row) (hr : ∀ r, row = some r → M + 1 ≤ r) : RbF w M smv wr' := by
  have hs := h.sz
  have hl := h.lt
  have hn : ∀ q, q < M + 1 → some q ≠ row := fun q hq e => by have := hr q e.symm; omega
  exact ⟨hl, h.below.grown g (by omega) (fun r e => by have := hr r e; omega), (g.block _ (by omega) (hn _ (by omega))).trans h.b0, (g.block _ (by omega) (hn _ (by omega))).trans h.b1⟩
theorem RbF.set {w : World} {M : Nat} {smv : Value} {wr : World} (h : RbF w M smv wr) (u : Value) : RbF w M u (wr.setCell ⟨M, 5, none⟩ u) := by
  have hs := h.sz
  have hl := h.lt
  have g := grown_set1 wr M 5 u
  refine ⟨hl, h.below.grown g (by omega) (fun r e => by cases e; omega), (g.block _ (by omega) (fun e => by have := Option.some.inj e; omega)).trans h.b0, ?_⟩
  rw [set_block h.b1]
  rfl

/-- is it one of those behind the first j -/
def candB (s : List Mem) (j : Nat) (x : Mem) : Bool := decide (j = 0) || ltB (keyAt s (j - 1)) x.1
def BestI (l s : List Mem) (j i : Nat) (e : Value) : Prop :=
  (e = .int .i64 (-1) ∧ ∀ (t : Nat) (h : t < l.length), t < i → candB s j l[t] = false) ∨
  (∃ (b : Nat) (hb : b < l.length), e = .int .i64 (b : Int) ∧ b < i ∧ candB s j l[b] = true ∧ ∀ (t : Nat) (h : t < l.length), t < i → candB s j l[t] = true → ltB (l[t]).1 (l[b]).1 = false)
theorem best_end {l s : List Mem} {j : Nat} {e : Value} (hp : s.Perm l) (hs : Srt s) (hj : j < s.length) (h : BestI l s j l.length e) : ∃ (b : Nat) (hb : b < l.length), e = .int .i64 (b : Int) ∧ l[b] = s[j] := by
  obtain ⟨t, ht, hte⟩ := List.getElem_of_mem (hp.mem_iff.1 (List.getElem_mem hj))
  have hc : candB s j l[t] = true := by
    rw [hte, candB]
    by_cases h0 : j = 0
    · simp [h0]
    · have := (List.pairwise_iff_getElem.1 hs) (j - 1) j (by omega) hj (by omega)
      rw [keyAt_eq (by omega), this]
      simp
  rcases h with ⟨_, h⟩ | ⟨b, hb, he, _, hcb, hmin⟩
  · rw [h t ht ht] at hc; cases hc
  · refine ⟨b, hb, he, ?_⟩
    have hm := hmin t ht ht hc
    rw [hte] at hm
    obtain ⟨r, hr, hre⟩ := List.getElem_of_mem (hp.mem_iff.2 (List.getElem_mem hb))
    rw [← hre] at hm hcb ⊢
    have h1 : ¬ j < r := fun h1 => by
      have := (List.pairwise_iff_getElem.1 hs) j r hj hr h1
      rw [this] at hm
      cases hm
    have h2 : ¬ r < j := fun h2 => by
      rw [candB, keyAt_eq (show j - 1 < s.length by omega)] at hcb
      have h3 : ltB (s[j - 1]).1 (s[r]).1 = true := by
        have : decide (j = 0) = false := by simp; omega
        rw [this] at hcb
        simpa using hcb
      rcases Nat.lt_or_ge r (j - 1) with h4 | h4
      · have h5 := (List.pairwise_iff_getElem.1 hs) r (j - 1) hr (by omega) h4
        have := ltB_trans h3 h5
        rw [ltB_irr] at this
        cases this
      · obtain rfl : r = j - 1 := by omega
        rw [ltB_irr] at h3
        cases h3
    obtain rfl : r = j := by omega
    rfl
theorem best_none {l s : List Mem} {j i : Nat} (hi : i < l.length) (h : BestI l s j i (.int .i64 (-1))) (hc : candB s j l[i] = true) : BestI l s j (i + 1) (.int .i64 (i : Int)) := by
  rcases h with ⟨_, h⟩ | ⟨b, hb, he, _⟩
  · refine .inr ⟨i, hi, rfl, by omega, hc, fun t ht hti hct => ?_⟩
    rcases Nat.lt_or_ge t i with h1 | h1
    · rw [h t ht h1] at hct; cases hct
    · obtain rfl : t = i := by omega
      exact ltB_irr _
  · simp at he <;> omega
theorem best_skip {l s : List Mem} {j i : Nat} {e : Value} (hi : i < l.length) (h : BestI l s j i e) (hc : candB s j l[i] = false) : BestI l s j (i + 1) e := by
  have k : ∀ (t : Nat) (ht : t < l.length), t < i + 1 → candB s j l[t] = true → t < i := fun t ht h1 h2 => by
    rcases Nat.lt_or_ge t i with h3 | h3
    · exact h3
    · obtain rfl : t = i := by omega
      rw [hc] at h2; cases h2
  rcases h with ⟨he, h⟩ | ⟨b, hb, he, hbi, hcb, hmin⟩
  · refine .inl ⟨he, fun t ht hti => ?_⟩
    rcases Nat.lt_or_ge t i with h3 | h3
    · exact h t ht h3
    · obtain rfl : t = i := by omega
      exact hc
  · exact .inr ⟨b, hb, he, by omega, hcb, fun t ht hti hct => hmin t ht (k t ht hti hct) hct⟩
theorem best_less {l s : List Mem} {j i b : Nat} (hi : i < l.length) (hb : b < l.length) (h : BestI l s j i (.int .i64 (b : Int))) (hc : candB s j l[i] = true) (hl : ltB (l[i]).1 (l[b]).1 = true) : BestI l s j (i + 1) (.int .i64 (i : Int)) := by
  rcases h with ⟨he, _⟩ | ⟨b', hb', he, hbi, hcb, hmin⟩
  · simp at he <;> omega
  · obtain rfl : b = b' := by simp at he; omega
    refine .inr ⟨i, hi, rfl, by omega, hc, fun t ht hti hct => ?_⟩
    rcases Nat.lt_or_ge t i with h3 | h3
    · have h4 := hmin t ht h3 hct
      rw [Bool.eq_false_iff]
      intro h5
      rw [ltB_trans h5 hl] at h4
      cases h4
    · obtain rfl : t = i := by omega
      exact ltB_irr _
theorem best_more {l s : List Mem} {j i b : Nat} (hi : i < l.length) (hb : b < l.length) (h : BestI l s j i (.int .i64 (b : Int))) (hl : ltB (l[i]).1 (l[b]).1 = false) : BestI l s j (i + 1) (.int .i64 (b : Int)) := by
  rcases h with ⟨he, _⟩ | ⟨b', hb', he, hbi, hcb, hmin⟩
  · simp at he <;> omega
  · obtain rfl : b = b' := by simp at he; omega
    refine .inr ⟨b, hb, rfl, by omega, hcb, fun t ht hti hct => ?_⟩
    rcases Nat.lt_or_ge t i with h3 | h3
    · exact hmin t ht h3 hct
    · obtain rfl : t = i := by omega
      exact hl
theorem best_case {l s : List Mem} {j i : Nat} {e : Value} (h : BestI l s j i e) : e = .int .i64 (-1) ∨ ∃ b, b < l.length ∧ e = .int .i64 (b : Int) := by
  rcases h with ⟨he, _⟩ | ⟨b, hb, he, _⟩
  · exact .inl he
  · exact .inr ⟨b, hb, he⟩
def lenAt (w : World) (M : Nat) : Nat := match w.cell? ⟨M, 5, none⟩ with
  | some (.slice _ n _) => n
  | _ => 0
theorem lenAt_rb {w : World} {M : Nat} {a : Option Addr} {n c : Nat} {wr : World} (h : RbF w M (.slice a n c) wr) : lenAt wr M = n := by
  have : wr.cell? ⟨M, 5, none⟩ = some (.slice a n c) := by rw [cell_of_block h.b1]; rfl
  rw [lenAt, this]

set_option maxHeartbeats 3000000 in
set_option maxRecDepth 100000 in
theorem rbuild_any (l : List Mem) (S : Nat → Prop) (am : Option Addr) (cm bm om : Nat) (w : World) (ham : Headed am l.length cm bm om) (hl : liesM false w S l bm om) (hS : ∀ b, S b → b < w.heap.size) (hwt : wtM l ≤ 2147483647) :
    Calls Tryd.prog 40 #[.slice am l.length cm] w (BvPost l w) := by
  have hlen := wtM_len l
  have hz0 := alloc_size w (.cells #[.int .i64 0, .bool false, .int .i64 0, .string ⟨#[]⟩, .slice none 0 0, .slice none 0 0] 25)
  have B0 : Below w.heap.size w (w.alloc (.cells #[.int .i64 0, .bool false, .int .i64 0, .string ⟨#[]⟩, .slice none 0 0, .slice none 0 0] 25)) := (Below.refl _ _).alloc (Nat.le_refl _) _
  have h0 := heap_alloc_new w (.cells #[.int .i64 0, .bool false, .int .i64 0, .string ⟨#[]⟩, .slice none 0 0, .slice none 0 0] 25)
  have HM : Hid (∀ W, Below w.heap.size w W → liesM false W S l bm om ∧ (∀ b, S b → b < W.heap.size)) := fun W hb => ⟨liesM_keep (fun h => h) (fun x hx => hb.block x (hS x hx)) (fun _ h => h) _ hl, fun x hx => Nat.lt_of_lt_of_le (hS x hx) hb.size⟩
  have HW : Hid (∀ j (h : j < l.length), (l[j]).1.size + (l[j]).2.wt ≤ 2147483647) := fun j h => by
    have := wtM_mem (List.getElem_mem h : l[j] ∈ l)
    omega
  clear hl
  go_enter Tryd.func40, Tryd.ntmps40
  go_wp2_with fail
  generalize (w.alloc (.cells #[.int .i64 0, .bool false, .int .i64 0, .string ⟨#[]⟩, .slice none 0 0, .slice none 0 0] 25)) = w0 at *
  have K0 : Hid (∀ W, Below w0.heap.size w0 W → Below w.heap.size w W ∧ W.heap[w.heap.size]? = some (.cells #[.int .i64 0, .bool false, .int .i64 0, .string ⟨#[]⟩, .slice none 0 0, .slice none 0 0] 25 (0, 0))) := fun W hb => ⟨B0.trans (hb.mono (by omega)), (hb.block _ (by omega)).trans h0⟩
  clear h0 B0
  go_loopw [4] (fun e wr => ∃ j : Nat, j ≤ l.length ∧ e = .int .i64 (j : Int) ∧ Hid (∀ i (h : i < l.length), i < j → (okV (l[i]).2 = true ∧ utfB (l[i]).1 = true) ∧ ∀ p (h' : p < l.length), p < i → ¬ (l[p]).1.toList = (l[i]).1.toList) ∧ Hid (Below w0.heap.size w0 wr)) (fun e _ => l.length - (RowKit.intOf e).toNat)
  case atStart => exact ⟨0, by omega, rfl, (fun i hi hij => by omega), Below.refl _ _⟩
  case round =>
    obtain ⟨j, hj, rfl, HO, bj⟩ := hrel
    have hzr := bj.out.size
    obtain ⟨Bj, tj⟩ := K0.out wr bj.out
    by_cases hjl : j < l.length
    · have y1 : (j : Int) < l.length := by omega
      obtain rfl : am = some ⟨bm, om, none⟩ := ham.at_.resolve_left (by omega)
      obtain ⟨hSb, hks, csj, hrow, hlj⟩ := liesM_get (HM.out wr Bj).1 j hjl
      have HJ : Hid ((l[j]).2.lies false wr S csj) := hlj
      have hwj := HW.out j hjl
      obtain ⟨ek, eb, ei, es, eal, enl, ecl, eam, enm, ecm, rfl⟩ := V.ten hlj
      obtain ⟨ekey, hek⟩ : ∃ ekey, (l[j]).1 = ekey := ⟨_, rfl⟩
      have HK : Hid ((l[j]).1 = ekey) := hek
      rw [hek] at hrow hwj
      obtain ⟨q, q0, q1, q2, q3, q4, q5⟩ := row7 hrow
      clear hlj hrow hek tj
      go_wp2_with fail
      refine (rtaken_any false (l[j]).2 S _ wr HJ.out (HM.out wr Bj).2 (by omega)).mono ?_
      rintro e w3 ⟨rfl, b3⟩
      have b4 := bj.out.trans (b3.mono hzr)
      obtain ⟨B4, tz⟩ := K0.out w3 b4
      have hbl : bm < wr.heap.size := (HM.out wr Bj).2 bm hSb
      replace q := (b3.cell (p := ⟨bm, om + j * 7, none⟩) hbl).trans q
      have cu := utf_any ekey w3 (by omega)
      clear q0 q1 q2 q3 q4 q5 b3 HJ
      have HO1 : Hid (∀ x, x = l[j] → okV x.2 = okV (l[j]).2) := fun x hx => by rw [hx]
      cases ho : okV (l[j]).2 with
      | false =>
        go_wp2_with fail
        refine cu.mono ?_
        rintro e w5 ⟨rfl, rfl⟩
        have HN : Hid (¬ Fine l) := fun hf => by have := (hf.ok l[j] (List.getElem_mem hjl)).1; rw [ho] at this; cases this
        have r0 : w5.cell? ⟨w.heap.size, 0, none⟩ = some (.int .i64 0) := by rw [cell_of_block tz]; rfl
        have r1 : w5.cell? ⟨w.heap.size, 1, none⟩ = some (.bool false) := by rw [cell_of_block tz]; rfl
        have r2 : w5.cell? ⟨w.heap.size, 2, none⟩ = some (.int .i64 0) := by rw [cell_of_block tz]; rfl
        have r3 : w5.cell? ⟨w.heap.size, 3, none⟩ = some (.string ⟨#[]⟩) := by rw [cell_of_block tz]; rfl
        have r4 : w5.cell? ⟨w.heap.size, 4, none⟩ = some (.slice none 0 0) := by rw [cell_of_block tz]; rfl
        have r5 : w5.cell? ⟨w.heap.size, 5, none⟩ = some (.slice none 0 0) := by rw [cell_of_block tz]; rfl
        have rf : ∀ i, w5.frozen? ⟨w.heap.size, i, none⟩ = false := frozen_of_block tz
        clear tz
        go_wp2_with fail
        (try simp only [Exit.inBlock, Exit.then])
        refine bodyPost_ret (v := .tuple #[.agg #[.int .i64 0, .bool false, .int .i64 0, .string ⟨#[]⟩, .slice none 0 0, .slice none 0 0], .int .i64 20]) ?_ rfl (.inl ⟨HN.out, [.int .i64 0, .bool false, .int .i64 0, .string ⟨#[]⟩, .slice none 0 0, .slice none 0 0], rfl, null_lies _ _, Below.set6 B4 (Nat.le_refl _) _ _ _ _ _ _ _ _ _ _ _ _⟩)
        rw [results_cell_tmp rfl]
        go_simp
      | true =>
        go_wp2_with fail
        refine cu.mono ?_
        rintro e w5 ⟨rfl, rfl⟩
        cases hu : utfB ekey with
        | false =>
          have HN : Hid (¬ Fine l) := fun hf => by have := (hf.ok l[j] (List.getElem_mem hjl)).2; rw [HK.out, hu] at this; cases this
          have r0 : w5.cell? ⟨w.heap.size, 0, none⟩ = some (.int .i64 0) := by rw [cell_of_block tz]; rfl
          have r1 : w5.cell? ⟨w.heap.size, 1, none⟩ = some (.bool false) := by rw [cell_of_block tz]; rfl
          have r2 : w5.cell? ⟨w.heap.size, 2, none⟩ = some (.int .i64 0) := by rw [cell_of_block tz]; rfl
          have r3 : w5.cell? ⟨w.heap.size, 3, none⟩ = some (.string ⟨#[]⟩) := by rw [cell_of_block tz]; rfl
          have r4 : w5.cell? ⟨w.heap.size, 4, none⟩ = some (.slice none 0 0) := by rw [cell_of_block tz]; rfl
          have r5 : w5.cell? ⟨w.heap.size, 5, none⟩ = some (.slice none 0 0) := by rw [cell_of_block tz]; rfl
          have rf : ∀ i, w5.frozen? ⟨w.heap.size, i, none⟩ = false := frozen_of_block tz
          clear tz
          go_wp2_with fail
          (try simp only [Exit.inBlock, Exit.then])
          refine bodyPost_ret (v := .tuple #[.agg #[.int .i64 0, .bool false, .int .i64 0, .string ⟨#[]⟩, .slice none 0 0, .slice none 0 0], .int .i64 20]) ?_ rfl (.inl ⟨HN.out, [.int .i64 0, .bool false, .int .i64 0, .string ⟨#[]⟩, .slice none 0 0, .slice none 0 0], rfl, null_lies _ _, Below.set6 B4 (Nat.le_refl _) _ _ _ _ _ _ _ _ _ _ _ _⟩)
          rw [results_cell_tmp rfl]
          go_simp
        | true =>
          have HOK : Hid (okV (l[j]).2 = true ∧ utfB (l[j]).1 = true) := ⟨ho, by rw [HK.out]; exact hu⟩
          have Bq : Hid (Below w0.heap.size w0 w5) := b4
          clear ho hu tz cu HO1 b4 B4
          go_wp2_with fail
          go_loopw [7] (fun e wq => ∃ k : Nat, k ≤ j ∧ e = .int .i64 (k : Int) ∧ Hid (∀ p (h' : p < l.length), p < k → ¬ (l[p]).1.toList = (l[j]).1.toList) ∧ Hid (Below w0.heap.size w0 wq)) (fun e _ => j - (RowKit.intOf e).toNat)
          case atStart => exact ⟨0, by omega, rfl, (fun i hi hij => by omega), Bq⟩
          case round =>
            clear q Bq
            rename World => wp
            obtain ⟨k, hk, rfl, HP, bk⟩ := hrel
            obtain ⟨Bk, tz⟩ := K0.out wp bk.out
            have hzk := bk.out.size
            by_cases hkj : k < j
            · have y2 : (k : Int) < j := by omega
              have y3 : (k : Int) < l.length := by omega
              obtain ⟨_, _, cs1, hr1, _⟩ := liesM_get (HM.out wp Bk).1 k (by omega)
              obtain ⟨_, _, cs2, hr2, _⟩ := liesM_get (HM.out wp Bk).1 j hjl
              obtain ⟨kkey, hkk⟩ : ∃ kkey, (l[k]'(by omega)).1 = kkey := ⟨_, rfl⟩
              have HKK : Hid ((l[k]'(by omega)).1 = kkey) := hkk
              rw [hkk] at hr1
              rw [HK.out] at hr2
              have z1 := hr1 0 _ rfl
              have z2 := hr2 0 _ rfl
              rw [Nat.add_zero] at z1 z2
              have hbp : bm < wp.heap.size := (HM.out wp Bk).2 bm hSb
              have p1 : ∀ x : Sub wp.heap.size wp, _ := sub_cell z1 hbp
              have p2 : ∀ x : Sub wp.heap.size wp, _ := sub_cell z2 hbp
              clear hr1 hr2 z1 z2 hkk
              by_cases he : kkey.toList = ekey.toList
              · have ye : (kkey.toList == ekey.toList) = true := by rw [beq_iff_eq]; exact he
                go_wp2_with fail
                refine wp_region_sub wp.heap.size (by kernel_rfl) (by kernel_rfl) ?_
                repeat (go_big_quiet_step (fail))
                refine wpQuiet_nil ?_
                intro wz hwz
                obtain ⟨⟨wy, bz⟩, hy⟩ := hwz
                have hy' : wz = wy := hy
                subst hy'
                clear hy
                have b6 := bk.out.trans (bz.mono hzk)
                replace tz := (bz.block w.heap.size (by omega)).trans tz
                have B6 := (K0.out wz b6).1
                have HN : Hid (¬ Fine l) := fun hf => (List.pairwise_iff_getElem.1 hf.ne) k j (by omega) hjl hkj (by rw [HKK.out, HK.out]; exact he)
                have r0 : wz.cell? ⟨w.heap.size, 0, none⟩ = some (.int .i64 0) := by rw [cell_of_block tz]; rfl
                have r1 : wz.cell? ⟨w.heap.size, 1, none⟩ = some (.bool false) := by rw [cell_of_block tz]; rfl
                have r2 : wz.cell? ⟨w.heap.size, 2, none⟩ = some (.int .i64 0) := by rw [cell_of_block tz]; rfl
                have r3 : wz.cell? ⟨w.heap.size, 3, none⟩ = some (.string ⟨#[]⟩) := by rw [cell_of_block tz]; rfl
                have r4 : wz.cell? ⟨w.heap.size, 4, none⟩ = some (.slice none 0 0) := by rw [cell_of_block tz]; rfl
                have r5 : wz.cell? ⟨w.heap.size, 5, none⟩ = some (.slice none 0 0) := by rw [cell_of_block tz]; rfl
                have rf : ∀ i, wz.frozen? ⟨w.heap.size, i, none⟩ = false := frozen_of_block tz
                clear tz
                go_wp2_with fail
                (try simp only [Exit.inBlock, Exit.then])
                refine bodyPost_ret (v := .tuple #[.agg #[.int .i64 0, .bool false, .int .i64 0, .string ⟨#[]⟩, .slice none 0 0, .slice none 0 0], .int .i64 20]) ?_ rfl (.inl ⟨HN.out, [.int .i64 0, .bool false, .int .i64 0, .string ⟨#[]⟩, .slice none 0 0, .slice none 0 0], rfl, null_lies _ _, Below.set6 B6 (Nat.le_refl _) _ _ _ _ _ _ _ _ _ _ _ _⟩)
                rw [results_cell_tmp rfl]
                go_simp
              · have ye : (kkey.toList == ekey.toList) = false := by rw [beq_eq_false_iff_ne]; exact he
                have HP' : Hid (∀ p (h' : p < l.length), p < k + 1 → ¬ (l[p]).1.toList = (l[j]).1.toList) := fun p h' hp => by
                  rcases Nat.lt_or_ge p k with h1 | h1
                  · exact HP.out p h' h1
                  · obtain rfl : p = k := by omega
                    rw [HKK.out, HK.out]; exact he
                clear he tz
                go_wp2_with fail
                refine wp_region_sub wp.heap.size (by kernel_rfl) (by kernel_rfl) ?_
                repeat (go_big_quiet_step (fail))
                refine wpQuiet_nil ?_
                rintro _ ⟨⟨wz, bz⟩, rfl⟩
                have b6 := bk.out.trans (bz.mono hzk)
                go_wp2_with fail
                go_roundw
                case rel => exact ⟨k + 1, by omega, by go_num, HP', b6⟩
                case measure => simp [RowKit.intOf]; omega
            · obtain rfl : k = j := by omega
              have y2 : ¬ (k : Int) < k := by omega
              have HO' : Hid (∀ i (h : i < l.length), i < k + 1 → (okV (l[i]).2 = true ∧ utfB (l[i]).1 = true) ∧ ∀ p (h' : p < l.length), p < i → ¬ (l[p]).1.toList = (l[i]).1.toList) := fun i h hi => by
                rcases Nat.lt_or_ge i k with h1 | h1
                · exact HO.out i h h1
                · obtain rfl : i = k := by omega
                  exact ⟨HOK.out, HP.out⟩
              clear tz
              go_wp2_with fail
              go_roundw
              case rel => exact ⟨k + 1, by omega, by go_num, HO', bk⟩
              case measure => simp [RowKit.intOf]; omega
    · obtain rfl : j = l.length := by omega
      have y1 : ¬ (l.length : Int) < l.length := by omega
      have HF : Hid (Fine l) := ⟨fun x hx => by obtain ⟨i, hi, rfl⟩ := List.getElem_of_mem hx; exact (HO.out i hi hi).1, List.pairwise_iff_getElem.2 fun p i hp hi hpi => (HO.out i hi hi).2 p hp hpi⟩
      obtain ⟨s, hs⟩ : ∃ s, srtM l = s := ⟨_, rfl⟩
      have HSP : Hid (s.Perm l ∧ Srt s) := by rw [← hs]; exact ⟨srtM_perm l, fine_srt (HF.out.perm (srtM_perm l).symm) (srtM_wk l)⟩
      have HSE : Hid (srtM l = s) := hs
      have hsl : s.length = l.length := HSP.out.1.length_eq
      clear hs HO
      go_wp2_with fail
      have hza := alloc_size wr (.cells #[.int .i64 5, .bool false, .int .i64 0, .string ⟨#[]⟩, .slice none 0 0, .slice none 0 0] 25)
      have ba : Below wr.heap.size wr (wr.alloc (.cells #[.int .i64 5, .bool false, .int .i64 0, .string ⟨#[]⟩, .slice none 0 0, .slice none 0 0] 25)) := (Below.refl _ _).alloc (Nat.le_refl _) _
      have r0 : RbF w wr.heap.size (.slice none 0 0) (wr.alloc (.cells #[.int .i64 5, .bool false, .int .i64 0, .string ⟨#[]⟩, .slice none 0 0, .slice none 0 0] 25)) := ⟨by omega, Bj.trans (ba.mono Bj.size), (ba.block _ (by omega)).trans tj, heap_alloc_new wr _⟩
      obtain ⟨i1, hi1, hy0, hy1, hy2⟩ := info_parts info44
      have hJ : Hid (Tryd.prog.info? 44 = some i1 ∧ i1.zero = some (.agg #[.string ⟨#[]⟩, .int .i64 0, .bool false, .int .i64 0, .string ⟨#[]⟩, .slice none 0 0, .slice none 0 0]) ∧ i1.size = 7 ∧ i1.bytes = 104) := ⟨hi1, hy0, hy1, hy2⟩
      clear hi1 hy0 hy1 hy2 ba tj Bj
      generalize wr.heap.size = M at *
      go_loopw [9] (fun _ wq => ∃ (j : Nat) (smv : Value) (SM : Nat → Prop), j ≤ l.length ∧ RbF w M smv wq ∧ OwnM false wq (M + 1) SM smv ((s.take j).map some)) (fun _ wq => l.length - lenAt wq M)
      case atStart => exact ⟨0, _, _, by omega, r0, by simpa using OwnR.nil _ _⟩
      case round =>
        rename World => wp
        clear r0
        obtain ⟨j, smv, SM, hj, rj, oj⟩ := hrel
        have hjs : (s.take j).length = j := by rw [List.length_take]; omega
        obtain ⟨sa, sc, sb, so, rfl, hd, hls⟩ := own_listM oj
        rw [hjs] at hd rj oj
        have hzp := rj.sz
        have hlw := rj.lt
        have c5 : wp.cell? ⟨M, 5, none⟩ = some (.slice sa j sc) := by rw [cell_of_block rj.b1]; rfl
        have HLen : Hid (lenAt wp M = j) := by show _ = _; rw [lenAt, c5]
        by_cases hjl : j < l.length
        · have y1 : (j : Int) < l.length := by omega
          obtain rfl : am = some ⟨bm, om, none⟩ := ham.at_.resolve_left (by omega)
          have HLS : Hid (¬ j = 0 → sa = some ⟨sb, so, none⟩ ∧ wp.cell? ⟨sb, so + (j - 1) * 7, none⟩ = some (.string (keyAt s (j - 1))) ∧ sb < wp.heap.size) := fun h => by
            obtain ⟨hSb, _, cs, hr, _⟩ := liesM_get hls (j - 1) (by rw [hjs]; omega)
            have h1 := hr 0 _ rfl
            rw [Nat.add_zero] at h1
            simp only [List.getElem_take] at h1
            exact ⟨hd.at_.resolve_left h, by rw [keyAt_eq (by omega)]; exact h1, hSb.2⟩
          have HOJ : Hid (RbF w M (.slice sa j sc) wp ∧ OwnM false wp (M + 1) SM (.slice sa j sc) ((s.take j).map some)) := ⟨rj, oj⟩
          clear rj oj hls hd
          go_wp2_with fail
          go_loopw [9, 10] (fun e9 e10 wq => ∃ (i : Nat) (e0 : Value), i ≤ l.length ∧ e0 = e9 ∧ e10 = .int .i64 (i : Int) ∧ Hid (BestI l s j i e0) ∧ Hid (Below wp.heap.size wp wq)) (fun _ e10 _ => l.length - (RowKit.intOf e10).toNat)
          case atStart => exact ⟨0, _, by omega, rfl, rfl, .inl ⟨rfl, fun t h ht => by omega⟩, Below.refl _ _⟩
          case round =>
            rename World => wx
            obtain ⟨i, e0, hi, rfl, rfl, HBI, bx⟩ := hrel
            have hzx := bx.out.size
            have c6 := (bx.out.cell (p := ⟨M, 5, none⟩) (by show M < _; omega)).trans c5
            have Bx : Below w.heap.size w wx := HOJ.out.1.below.trans (bx.out.mono HOJ.out.1.below.size)
            by_cases hil : i < l.length
            · have y2 : (i : Int) < l.length := by omega
              have p0 : ∀ x : Sub wx.heap.size wx, _ := sub_cell c6 (by omega)
              obtain ⟨hSb, _, cs1, hr1, _⟩ := liesM_get (HM.out wx Bx).1 i hil
              obtain ⟨ikey, hik⟩ : ∃ ikey, (l[i]).1 = ikey := ⟨_, rfl⟩
              have HIK : Hid ((l[i]).1 = ikey) := hik
              rw [hik] at hr1
              have z1 := hr1 0 _ rfl
              rw [Nat.add_zero] at z1
              have hbm : bm < wx.heap.size := (HM.out wx Bx).2 bm hSb
              have p1 : ∀ x : Sub wx.heap.size wx, _ := sub_cell z1 hbm
              clear hr1 z1 hik c6 c5
              by_cases hj0 : j = 0
              · have y0 : ((j : Int) == 0) = true := by simp [hj0]
                have hc : candB s j l[i] = true := by simp [candB, hj0]
                clear hj0
                rcases best_case HBI.out with rfl | ⟨b, hb, rfl⟩
                · have HB' : Hid (BestI l s j (i + 1) (.int .i64 (i : Int))) := best_none hil HBI.out hc
                  clear hc
                  go_wp2_with fail
                  refine wp_region_sub wx.heap.size (by kernel_rfl) (by kernel_rfl) ?_
                  repeat (go_big_quiet_step (fail))
                  refine wpQuiet_nil ?_
                  rintro _ ⟨⟨wz, bz⟩, rfl⟩
                  have b6 := bx.out.trans (bz.mono hzx)
                  go_wp2_with fail
                  go_roundw
                  case rel => exact ⟨i + 1, _, by omega, rfl, by go_num, HB', b6⟩
                  case measure => simp [RowKit.intOf]; omega
                · have y3 : (b : Int) < l.length := by omega
                  have yb : decide ((b : Int) < 0) = false := by simp
                  obtain ⟨_, _, cs2, hr2, _⟩ := liesM_get (HM.out wx Bx).1 b hb
                  obtain ⟨bkey, hbk⟩ : ∃ bkey, (l[b]).1 = bkey := ⟨_, rfl⟩
                  have HBK : Hid ((l[b]).1 = bkey) := hbk
                  rw [hbk] at hr2
                  have z2 := hr2 0 _ rfl
                  rw [Nat.add_zero] at z2
                  have p2 : ∀ x : Sub wx.heap.size wx, _ := sub_cell z2 hbm
                  clear hr2 z2 hbk
                  cases hlt : ltB ikey bkey with
                  | true =>
                    have yl : Op.bytesLess ikey.toList bkey.toList = true := hlt
                    have HB' : Hid (BestI l s j (i + 1) (.int .i64 (i : Int))) := best_less hil hb HBI.out hc (by rw [HIK.out, HBK.out]; exact hlt)
                    clear hc hlt
                    go_wp2_with fail
                    refine wp_region_sub wx.heap.size (by kernel_rfl) (by kernel_rfl) ?_
                    repeat (go_big_quiet_step (fail))
                    refine wpQuiet_nil ?_
                    rintro _ ⟨⟨wz, bz⟩, rfl⟩
                    have b6 := bx.out.trans (bz.mono hzx)
                    go_wp2_with fail
                    go_roundw
                    case rel => exact ⟨i + 1, _, by omega, rfl, by go_num, HB', b6⟩
                    case measure => simp [RowKit.intOf]; omega
                  | false =>
                    have yl : Op.bytesLess ikey.toList bkey.toList = false := hlt
                    have HB' : Hid (BestI l s j (i + 1) (.int .i64 (b : Int))) := best_more hil hb HBI.out (by rw [HIK.out, HBK.out]; exact hlt)
                    clear hc hlt
                    go_wp2_with fail
                    refine wp_region_sub wx.heap.size (by kernel_rfl) (by kernel_rfl) ?_
                    repeat (go_big_quiet_step (fail))
                    refine wpQuiet_nil ?_
                    rintro _ ⟨⟨wz, bz⟩, rfl⟩
                    have b6 := bx.out.trans (bz.mono hzx)
                    go_wp2_with fail
                    go_roundw
                    case rel => exact ⟨i + 1, _, by omega, rfl, by go_num, HB', b6⟩
                    case measure => simp [RowKit.intOf]; omega
              · have y0 : ((j : Int) == 0) = false := by rw [beq_eq_false_iff_ne]; omega
                obtain ⟨rfl, hlk, hsb⟩ := HLS.out hj0
                obtain ⟨lkey, hlke⟩ : ∃ lkey, keyAt s (j - 1) = lkey := ⟨_, rfl⟩
                have HLK : Hid (keyAt s (j - 1) = lkey) := hlke
                rw [hlke] at hlk
                have p3 : ∀ x : Sub wx.heap.size wx, _ := sub_cell ((bx.out.cell (p := ⟨sb, so + (j - 1) * 7, none⟩) hsb).trans hlk) (by omega)
                have yw : IntKind.i64.wrap ((j : Int) - 1) = ((j - 1 : Nat) : Int) := by simp [IntKind.wrap, IntKind.bits, IntKind.signed]; omega
                have y4 : ((j - 1 : Nat) : Int) < j := by omega
                have hj0' : decide (j = 0) = false := by simp [hj0]
                clear hlk hlke
                cases hg : ltB lkey ikey with
                | true =>
                  have hc : candB s j l[i] = true := by rw [candB, HLK.out, HIK.out, hg]; simp
                  have hg1 : ltB ikey lkey = false := by
                    rw [Bool.eq_false_iff]; intro h; have := ltB_trans h hg; rw [ltB_irr] at this; cases this
                  have hg2 : ¬ ikey.toList = lkey.toList := fun e => by
                    have h2 := (ltB_cmp _ _).1 hg
                    have h3 := (cmpS_zero lkey ikey).2 e.symm
                    omega
                  have yg : Op.bytesLess ikey.toList lkey.toList = false := hg1
                  have yk : (ikey.toList == lkey.toList) = false := by rw [beq_eq_false_iff_ne]; exact hg2
                  clear hg hg1 hg2 hj0 hj0'
                  rcases best_case HBI.out with rfl | ⟨b, hb, rfl⟩
                  · have HB' : Hid (BestI l s j (i + 1) (.int .i64 (i : Int))) := best_none hil HBI.out hc
                    clear hc
                    go_wp2_with fail
                    refine wp_region_sub wx.heap.size (by kernel_rfl) (by kernel_rfl) ?_
                    repeat (go_big_quiet_step (fail))
                    refine wpQuiet_nil ?_
                    rintro _ ⟨⟨wz, bz⟩, rfl⟩
                    have b6 := bx.out.trans (bz.mono hzx)
                    go_wp2_with fail
                    go_roundw
                    case rel => exact ⟨i + 1, _, by omega, rfl, by go_num, HB', b6⟩
                    case measure => simp [RowKit.intOf]; omega
                  · have y3 : (b : Int) < l.length := by omega
                    have yb : decide ((b : Int) < 0) = false := by simp
                    obtain ⟨_, _, cs2, hr2, _⟩ := liesM_get (HM.out wx Bx).1 b hb
                    obtain ⟨bkey, hbk⟩ : ∃ bkey, (l[b]).1 = bkey := ⟨_, rfl⟩
                    have HBK : Hid ((l[b]).1 = bkey) := hbk
                    rw [hbk] at hr2
                    have z2 := hr2 0 _ rfl
                    rw [Nat.add_zero] at z2
                    have p2 : ∀ x : Sub wx.heap.size wx, _ := sub_cell z2 hbm
                    clear hr2 z2 hbk
                    cases hlt : ltB ikey bkey with
                    | true =>
                      have yl : Op.bytesLess ikey.toList bkey.toList = true := hlt
                      have HB' : Hid (BestI l s j (i + 1) (.int .i64 (i : Int))) := best_less hil hb HBI.out hc (by rw [HIK.out, HBK.out]; exact hlt)
                      clear hc hlt
                      go_wp2_with fail
                      refine wp_region_sub wx.heap.size (by kernel_rfl) (by kernel_rfl) ?_
                      repeat (go_big_quiet_step (fail))
                      refine wpQuiet_nil ?_
                      rintro _ ⟨⟨wz, bz⟩, rfl⟩
                      have b6 := bx.out.trans (bz.mono hzx)
                      go_wp2_with fail
                      go_roundw
                      case rel => exact ⟨i + 1, _, by omega, rfl, by go_num, HB', b6⟩
                      case measure => simp [RowKit.intOf]; omega
                    | false =>
                      have yl : Op.bytesLess ikey.toList bkey.toList = false := hlt
                      have HB' : Hid (BestI l s j (i + 1) (.int .i64 (b : Int))) := best_more hil hb HBI.out (by rw [HIK.out, HBK.out]; exact hlt)
                      clear hc hlt
                      go_wp2_with fail
                      refine wp_region_sub wx.heap.size (by kernel_rfl) (by kernel_rfl) ?_
                      repeat (go_big_quiet_step (fail))
                      refine wpQuiet_nil ?_
                      rintro _ ⟨⟨wz, bz⟩, rfl⟩
                      have b6 := bx.out.trans (bz.mono hzx)
                      go_wp2_with fail
                      go_roundw
                      case rel => exact ⟨i + 1, _, by omega, rfl, by go_num, HB', b6⟩
                      case measure => simp [RowKit.intOf]; omega
                | false =>
                  have hc : candB s j l[i] = false := by rw [candB, HLK.out, HIK.out, hg, hj0']; rfl
                  by_cases hg2 : ikey.toList = lkey.toList
                  · have yk : (ikey.toList == lkey.toList) = true := by rw [beq_iff_eq]; exact hg2
                    have yg : Op.bytesLess ikey.toList lkey.toList = false := by
                      show ltB ikey lkey = false
                      rw [Bool.eq_false_iff]; intro h
                      have h2 := (ltB_cmp _ _).1 h
                      have h3 := (cmpS_zero ikey lkey).2 hg2
                      omega
                    clear hg hg2 hj0 hj0'
                    have HB' : Hid (BestI l s j (i + 1) e0) := best_skip hil HBI.out hc
                    clear hc
                    go_wp2_with fail
                    refine wp_region_sub wx.heap.size (by kernel_rfl) (by kernel_rfl) ?_
                    repeat (go_big_quiet_step (fail))
                    refine wpQuiet_nil ?_
                    rintro _ ⟨⟨wz, bz⟩, rfl⟩
                    have b6 := bx.out.trans (bz.mono hzx)
                    go_wp2_with fail
                    go_roundw
                    case rel => exact ⟨i + 1, _, by omega, rfl, by go_num, HB', b6⟩
                    case measure => simp [RowKit.intOf]; omega
                  · have yg : Op.bytesLess ikey.toList lkey.toList = true := ltB_tri hg (fun e => hg2 e.symm)
                    have yk : (ikey.toList == lkey.toList) = false := by rw [beq_eq_false_iff_ne]; exact hg2
                    clear hg hg2 hj0 hj0'
                    have HB' : Hid (BestI l s j (i + 1) e0) := best_skip hil HBI.out hc
                    clear hc
                    go_wp2_with fail
                    refine wp_region_sub wx.heap.size (by kernel_rfl) (by kernel_rfl) ?_
                    repeat (go_big_quiet_step (fail))
                    refine wpQuiet_nil ?_
                    rintro _ ⟨⟨wz, bz⟩, rfl⟩
                    have b6 := bx.out.trans (bz.mono hzx)
                    go_wp2_with fail
                    go_roundw
                    case rel => exact ⟨i + 1, _, by omega, rfl, by go_num, HB', b6⟩
                    case measure => simp [RowKit.intOf]; omega
            · obtain rfl : i = l.length := by omega
              have y2 : ¬ (l.length : Int) < l.length := by omega
              obtain ⟨b, hb, rfl, hbe⟩ := best_end HSP.out.1 HSP.out.2 (by omega) HBI.out
              have y3 : (b : Int) < l.length := by omega
              obtain ⟨hSb, hks, csj, hrow, hlj⟩ := liesM_get (HM.out wx Bx).1 b hb
              have HJ : Hid ((l[b]).2.lies false wx S csj) := hlj
              have hwj := HW.out b hb
              obtain ⟨ek, eb, ei, es, eal, enl, ecl, eam, enm, ecm, rfl⟩ := V.ten hlj
              have HT : Hid ((s.take (j + 1)).map some = (s.take j).map some ++ [some l[b]]) := by show _ = _; rw [List.take_succ_eq_append_getElem (by omega), List.map_append, hbe]; rfl
              rcases hxj : l[b] with ⟨key, xv⟩
              rw [hxj] at hks hrow hwj HT HJ
              have hwx : xv.wt ≤ 2147483648 := Nat.le_trans (Nat.le_add_left _ _) (Nat.le_trans hwj (by omega))
              obtain ⟨q, q0, q1, q2, q3, q4, q5⟩ := row7 hrow
              have hll : ((s.take j).map some).length = j := by rw [List.length_map]; exact hjs
              have hbm : bm < wx.heap.size := (HM.out wx Bx).2 bm hSb
              have tj := HOJ.out.1.grown (grown_of_below bx.out) (fun r e => by cases e)
              have oj := HOJ.out.2.below (keepM false) bx.out
              clear hlj hrow hxj hbe HBI c6
              go_wp2_with fail
              refine (rclone_any xv false S _ wx HJ.out (HM.out wx Bx).2 hwx).mono ?_
              rintro e w3 ⟨csu, rfl, hx3, bl3⟩
              obtain ⟨uk, ub, ui, us, ual, unl, ucl, uam, unm, ucm, rfl⟩ := V.ten hx3
              have t3 := tj.grown (grown_of_below bl3) (fun r e => by cases e)
              have o3 := oj.below (keepM false) bl3
              have hw3 := t3.sz
              have hown : ∀ r, (Value.slice sa j sc).ownBlock = some r → M + 1 ≤ r ∧ r < wx.heap.size := fun r hr => oj.lt hr
              have HK : Hid (∀ b, wx.heap.size ≤ b ∧ b < w3.heap.size → M + 1 ≤ b ∧ b < w3.heap.size ∧ some b ≠ (Value.slice sa j sc).ownBlock) := fun b hb => ⟨by omega, hb.2, fun e => by have := (hown b e.symm).2; omega⟩
              have tw : ∀ o, RbF w M (.slice sa j sc) (w3.alloc o) := fun o => t3.grown (World.grownBy_alloc w3 o none) (fun r e => by cases e)
              have e5 : ∀ o, (w3.alloc o).cell? ⟨M, 5, none⟩ = some (.slice sa j sc) := fun o => by rw [cell_of_block (tw o).b1]; rfl
              have e5c : ∀ o o', ((w3.alloc o).alloc o').cell? ⟨M, 5, none⟩ = some (.slice sa j sc) := fun o o' => by rw [cell_of_block ((tw o).grown (World.grownBy_alloc _ o' none) (fun r e => by cases e)).b1]; rfl
              have hq : ∀ (o : Obj) {u : Value} {p : Nat}, wx.cell? ⟨bm, p, none⟩ = some u → (w3.alloc o).cell? ⟨bm, p, none⟩ = some u := fun o u p h => ((grown_of_below bl3).trans' o).cell h (by simp)
              have q' := fun o => hq o q
              clear q q0 q1 q2 q3 q4 q5 c5
              go_wp2_with fail
              have T5 : ∀ (o o' : Obj) (w5 : World), ((w3.alloc o).alloc o').drew.grownBy w5 (Value.slice sa j sc).ownBlock → RbF w M (.slice sa j sc) w5 := fun o o' w5 g5 =>
                (((tw o).grown (World.grownBy_alloc _ o' none) (fun r e => by cases e)).grown (grown_drew _ none) (fun r e => by cases e)).grown g5 (fun r e => (hown r e).1)
              go_region_law (refine step_push (keepM false) rfl (.tmp 114) (.tmp 122) 23 rfl (M + 1) i1 _ 104 Tryd.underlying23 hJ.out.1 hJ.out.2.1 hJ.out.2.2.1 hJ.out.2.2.2 rfl (by decide) (by decide) (.slice sa j sc) (some (key, xv)) rfl (((o3.alloc (keepM false) _).alloc (keepM false) _).drew (keepM false)) (w3.heap.size + 1) 1 (0, 0) rfl (alloc2_new w3 _ _) rfl one7 (keepM false _ _ _ _ _ _ (fun b hb => alloc2_keep w3 _ _ hb.2) (fun _ h => h) ⟨_, rfl, hks, hx3⟩) (fun b hb => alloc2_off (HK.out b hb)) (by rw [hll]; omega) (by show M + 1 ≤ ((w3.alloc _).alloc _).heap.size; rw [alloc_size, alloc_size]; omega) ?_; intro g cap w5 o5 g5 e5; rw [hll] at o5 ⊢; have t5 := T5 _ _ w5 g5; have e6 : w5.cell? ⟨M, 5, none⟩ = some (.slice sa j sc) := by { rw [cell_of_block t5.b1]; rfl }; have e7 : w5.frozen? ⟨M, 5, none⟩ = false := frozen_of_block t5.b1 5)
              all_goals go_wp2_with fail
              all_goals go_roundw
              all_goals first
                | exact ⟨j + 1, _, _, by omega, t5.set _, by rw [HT.out]; exact o5.set (keepM false) (by omega) _ _⟩
                | (rw [lenAt_rb (t5.set _), HLen.out]; omega)
        · obtain rfl : j = l.length := by omega
          have y1 : ¬ (l.length : Int) < l.length := by omega
          have hts : s.take l.length = s := by rw [← hsl, List.take_length]
          rw [hts] at hls
          have HV : Hid (∀ W, Below wp.heap.size wp W → (V.mk 5 false 0 ⟨#[]⟩ [] s).lies false W (From (M + 1) wp) [.int .i64 5, .bool false, .int .i64 0, .string ⟨#[]⟩, .slice none 0 0, .slice sa l.length sc]) := fun W hb => lies_S (e2 := hsl.symm) (by constructor <;> omega) (by constructor <;> omega) (by decide) headed_nil hd (by rw [liesL]; trivial) (liesM_keep (fun h => h) (fun x hx => hb.block x hx.2) (fun _ h => h) _ hls)
          have HR : Hid (∀ W, Below wp.heap.size wp W → RbF w M (.slice sa l.length sc) W) := fun W hb => rj.grown (grown_of_below hb) (fun r e => by cases e)
          have hwv : (V.mk 5 false 0 ⟨#[]⟩ [] s).wt ≤ 1099511627776 := by
            have z0 : (⟨#[]⟩ : ByteArray).size = 0 := rfl
            have := wtM_perm HSP.out.1
            simp only [V.wt, wtL]; omega
          have tj := rj.b1
          have m0 : wp.cell? ⟨M, 0, none⟩ = some (.int .i64 5) := by rw [cell_of_block tj]; rfl
          have m1 : wp.cell? ⟨M, 1, none⟩ = some (.bool false) := by rw [cell_of_block tj]; rfl
          have m2 : wp.cell? ⟨M, 2, none⟩ = some (.int .i64 0) := by rw [cell_of_block tj]; rfl
          have m3 : wp.cell? ⟨M, 3, none⟩ = some (.string ⟨#[]⟩) := by rw [cell_of_block tj]; rfl
          have m4 : wp.cell? ⟨M, 4, none⟩ = some (.slice none 0 0) := by rw [cell_of_block tj]; rfl
          have m5 : wp.cell? ⟨M, 5, none⟩ = some (.slice sa l.length sc) := by rw [cell_of_block tj]; rfl
          clear tj c5 rj oj hls hts
          go_wp2_with fail
          refine (rcheck_any false (V.mk 5 false 0 ⟨#[]⟩ [] s) 40 (From (M + 1) wp) _ wp (HV.out wp (Below.refl _ _)) (fun b h => h.2) hwv).mono ?_
          rintro e w3 ⟨rfl, b3⟩
          have rb3 := HR.out w3 b3
          have t0 := rb3.b0
          have t1 := rb3.b1
          have B3 := rb3.below
          clear m0 m1 m2 m3 m4 m5
          have r0 : w3.cell? ⟨w.heap.size, 0, none⟩ = some (.int .i64 0) := by rw [cell_of_block t0]; rfl
          have r1 : w3.cell? ⟨w.heap.size, 1, none⟩ = some (.bool false) := by rw [cell_of_block t0]; rfl
          have r2 : w3.cell? ⟨w.heap.size, 2, none⟩ = some (.int .i64 0) := by rw [cell_of_block t0]; rfl
          have r3 : w3.cell? ⟨w.heap.size, 3, none⟩ = some (.string ⟨#[]⟩) := by rw [cell_of_block t0]; rfl
          have r4 : w3.cell? ⟨w.heap.size, 4, none⟩ = some (.slice none 0 0) := by rw [cell_of_block t0]; rfl
          have r5 : w3.cell? ⟨w.heap.size, 5, none⟩ = some (.slice none 0 0) := by rw [cell_of_block t0]; rfl
          have rf : ∀ i, w3.frozen? ⟨w.heap.size, i, none⟩ = false := frozen_of_block t0
          have m0 : w3.cell? ⟨M, 0, none⟩ = some (.int .i64 5) := by rw [cell_of_block t1]; rfl
          have m1 : w3.cell? ⟨M, 1, none⟩ = some (.bool false) := by rw [cell_of_block t1]; rfl
          have m2 : w3.cell? ⟨M, 2, none⟩ = some (.int .i64 0) := by rw [cell_of_block t1]; rfl
          have m3 : w3.cell? ⟨M, 3, none⟩ = some (.string ⟨#[]⟩) := by rw [cell_of_block t1]; rfl
          have m4 : w3.cell? ⟨M, 4, none⟩ = some (.slice none 0 0) := by rw [cell_of_block t1]; rfl
          have m5 : w3.cell? ⟨M, 5, none⟩ = some (.slice sa l.length sc) := by rw [cell_of_block t1]; rfl
          have HE : Hid (mapE s = chkE (V.mk 5 false 0 ⟨#[]⟩ [] s) 40) := rfl
          generalize chkE (V.mk 5 false 0 ⟨#[]⟩ [] s) 40 = r at *
          by_cases hr0 : r = 0
          · subst hr0
            have HFv : Hid (mapV s = (V.mk 5 false 0 ⟨#[]⟩ [] s)) := by show _ = _; rw [mapV, if_pos HE.out]
            have HU : Hid ((V.mk 5 false 0 ⟨#[]⟩ [] s).lies false w3 (From (w.heap.size + 1) w3) [.int .i64 5, .bool false, .int .i64 0, .string ⟨#[]⟩, .slice none 0 0, .slice sa l.length sc]) := V.lies_keep (fun h => h) (fun _ _ => rfl) (fun x hx => ⟨by have := hx.1; omega, by have := hx.2; have := b3.size; omega⟩) _ (HV.out w3 b3)
            clear t0 t1 rb3
            go_wp2_with fail
            (try simp only [Exit.inBlock, Exit.then])
            refine bodyPost_ret (v := .tuple #[.agg #[.int .i64 5, .bool false, .int .i64 0, .string ⟨#[]⟩, .slice none 0 0, .slice sa l.length sc], .int .i64 0]) ?_ rfl (.inr ⟨HF.out, by rw [HSE.out, HFv.out, HE.out]; exact ⟨[.int .i64 5, .bool false, .int .i64 0, .string ⟨#[]⟩, .slice none 0 0, .slice sa l.length sc], rfl, V.lies_keep (fun h => h) (fun _ _ => rfl) (fun x hx => ⟨by have := hx.1; omega, hx.2⟩) _ (lies_set6A HU.out (show w.heap.size < w.heap.size + 1 by omega) _ _ _ _ _ _ _ _ _ _ _ _), Below.set6 B3 (Nat.le_refl _) _ _ _ _ _ _ _ _ _ _ _ _⟩⟩)
            rw [results_cell_tmp rfl]
            go_simp
          · have HFv : Hid (mapV s = nullV) := by show _ = _; rw [mapV, if_neg (by rw [HE.out]; exact hr0)]
            have y5 : ¬ (r : Int) = 0 := by omega
            clear t0 t1 rb3 m0 m1 m2 m3 m4 m5
            go_wp2_with fail
            (try simp only [Exit.inBlock, Exit.then])
            refine bodyPost_ret (v := .tuple #[.agg #[.int .i64 0, .bool false, .int .i64 0, .string ⟨#[]⟩, .slice none 0 0, .slice none 0 0], .int .i64 (r : Int)]) ?_ rfl (.inr ⟨HF.out, by rw [HSE.out, HFv.out, HE.out]; exact ⟨[.int .i64 0, .bool false, .int .i64 0, .string ⟨#[]⟩, .slice none 0 0, .slice none 0 0], rfl, null_lies _ _, Below.set6 B3 (Nat.le_refl _) _ _ _ _ _ _ _ _ _ _ _ _⟩⟩)
            rw [results_cell_tmp rfl]
            go_simp
end Go.Proofs.YtljgofmmihmmfaaDoor
