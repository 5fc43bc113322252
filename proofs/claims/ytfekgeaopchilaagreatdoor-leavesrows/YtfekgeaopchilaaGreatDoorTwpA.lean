import Derived.Test.YtfekgeaopchilaaGreatDoorTwvP
/- twin: the same path in memory of its own. -/
set_option linter.unusedSimpArgs false
set_option linter.unusedVariables false
namespace Go.Proofs.YtfekgeaopchilaaGreatDoor
open Go.RowKit
def EP (x : El) (w : World) (S : Nat → Prop) (cs : List Value) : Prop := x.lies w S cs
theorem keepP : KeepE EP := fun x w w' S S' cs hw hS h => El.lies_keep hw hS h
abbrev OwnP := OwnR EP 60 9
theorem info35 : (Tryz.prog.info? 60).map (fun i => (i.zero, i.size, i.bytes)) = some (some (.agg #[.int .i64 0, .string ⟨#[]⟩, .slice none 0 0, .int .i64 0, .bool false, .int .i64 0, .string ⟨#[]⟩, .slice none 0 0, .slice none 0 0]), 9, 136) := by kernel_rfl
theorem one9 {k i j : Int} {b : Bool} {s r : ByteArray} {p q o : Option Addr} {n c n' c' n2 c2 : Nat} : ∀ u ∈ [Value.int .i64 k, .string r, .slice o n2 c2, .int .i64 i, .bool b, .int .i64 j, .string s, .slice p n c, .slice q n' c'], u.oneCell' = true := by
  intro u hu
  simp at hu
  rcases hu with rfl | rfl | rfl | rfl | rfl | rfl | rfl | rfl | rfl <;> rfl
/-- the block of the element that is made -/
structure TpF (w : World) (loc : Array Value) (wr : World) : Prop where
  below : Below w.heap.size w wr
  b2 : wr.heap[w.heap.size]? = some (.cells loc 60 (0, 0))
theorem TpF.lt {w : World} {loc : Array Value} {wr : World} (h : TpF w loc wr) : w.heap.size + 1 ≤ wr.heap.size := (Array.getElem?_eq_some_iff.1 h.b2).1
theorem TpF.grown {w : World} {loc : Array Value} {wr wr' : World} (h : TpF w loc wr) {row : Option Nat} (g : wr.grownBy wr' row) (hr : ∀ r, row = some r → w.heap.size + 1 ≤ r) : TpF w loc wr' := by
  have hs := h.lt
  exact ⟨h.below.grown g (by omega) (fun r e => by have := hr r e; omega), (g.block _ (by omega) (fun e => by have := hr _ e.symm; omega)).trans h.b2⟩
theorem TpF.set {w : World} {loc loc' : Array Value} {wr : World} (h : TpF w loc wr) (i : Nat) (u : Value) (e : loc.setIfInBounds i u = loc') : TpF w loc' (wr.setCell ⟨w.heap.size, i, none⟩ u) := by
  have g := grown_set1 wr w.heap.size i u
  refine ⟨h.below.grown g h.below.size (fun r e => by cases e; omega), ?_⟩
  rw [set_block h.b2, e]
/-- where the twin of a path lies -/
def TqPost (p : List El) (S : Nat → Prop) (w : World) (e : Ending) (w' : World) : Prop := ∃ a c b o, e = .returned (.slice a p.length c) ∧ Headed a p.length c b o ∧ liesP w' (Tw S w w') p b o ∧ Below w.heap.size w w'
theorem own_listP {w : World} {N : Nat} {S T : Nat → Prop} {v : Value} {l : List El} (h : OwnP w N S v l) (hT : ∀ b, S b → T b) (hv : ∀ g, v.ownBlock = some g → T g) : ∃ a c b o, v = .slice a l.length c ∧ Headed a l.length c b o ∧ liesP w T l b o := by
  have h' := h
  obtain ⟨⟨xs, h1, h2⟩, h3⟩ := h'
  rcases h1.2 with ⟨rfl, e⟩ | ⟨g, cap, cur, rfl, _⟩
  · have : l = [] := List.length_eq_zero_iff.1 e
    subst this
    exact ⟨none, 0, 0, 0, rfl, ⟨Nat.le_refl _, by simp [maxLen], .inl rfl, fun _ => rfl⟩, fun j hj => by simp at hj⟩
  · have hle := h.le
    refine ⟨_, cap, g, 0, rfl, ⟨hle.1, hle.2, .inr rfl, fun h => by cases h⟩, fun j hj => ⟨hv g rfl, ?_⟩⟩
    obtain ⟨cs, k1, k2⟩ := h.at rfl j hj
    exact ⟨cs, k1, El.lies_keep (fun _ _ => rfl) hT k2⟩
set_option maxHeartbeats 8000000 in
set_option maxRecDepth 100000 in
theorem twp_any (p : List El) (S : Nat → Prop) (ap : Option Addr) (cp bp op : Nat) (w : World) (hap : Headed ap p.length cp bp op) (hp : liesP w S p bp op) (hS : ∀ b, S b → b < w.heap.size) (hwt : wtP p ≤ 2147483647) :
    Calls Tryz.prog 12 #[.slice ap p.length cp] w (TqPost p S w) := by
  have HP := hmk hp
  have HS : Hid (∀ b, S b → b < w.heap.size) := hS
  clear hp
  have hlm := wtP_len p
  obtain ⟨i0, hi0, hz0, hz1, hz2⟩ := info_parts info35
  obtain ⟨i1, hi1, hy0, hy1, hy2⟩ := info_parts info44
  have hI : Hid (Tryz.prog.info? 60 = some i0 ∧ i0.zero = some (.agg #[.int .i64 0, .string ⟨#[]⟩, .slice none 0 0, .int .i64 0, .bool false, .int .i64 0, .string ⟨#[]⟩, .slice none 0 0, .slice none 0 0]) ∧ i0.size = 9 ∧ i0.bytes = 136) := ⟨hi0, hz0, hz1, hz2⟩
  have hJ : Hid (Tryz.prog.info? 62 = some i1 ∧ i1.zero = some (.agg #[.string ⟨#[]⟩, .int .i64 0, .bool false, .int .i64 0, .string ⟨#[]⟩, .slice none 0 0, .slice none 0 0]) ∧ i1.size = 7 ∧ i1.bytes = 104) := ⟨hi1, hy0, hy1, hy2⟩
  clear hi0 hz0 hz1 hz2 hi1 hy0 hy1 hy2
  go_enter Tryz.func12, Tryz.ntmps12
  go_wp2_with fail
  go_loopw [3, 4] (fun e3 e wr => ∃ (j : Nat) (pv : Value) (SP : Nat → Prop), j ≤ p.length ∧ e = .int .i64 (j : Int) ∧ e3 = pv ∧ Below w.heap.size w wr ∧ OwnP wr 0 SP pv (p.take j) ∧ Hid (∀ r, pv.ownBlock = some r → w.heap.size ≤ r) ∧ Hid (∀ b, SP b → S b ∨ w.heap.size ≤ b)) (fun _ e _ => p.length - (RowKit.intOf e).toNat)
  case atStart => exact ⟨0, _, _, by omega, rfl, rfl, Below.refl _ _, by simpa using OwnR.nil _ _, fun r h => by simp [Value.ownBlock] at h, fun b (h : False) => h.elim⟩
  case round =>
    obtain ⟨j, pv, SP, hj, rfl, rfl, bO, oO, HO, HSP⟩ := hrel
    rename World => wO
    have hzO := bO.size
    by_cases hjl : j < p.length
    · have y3 : (j : Int) < p.length := by omega
      obtain ⟨hSb, csj, hrow, hlj⟩ := HP.out j hjl
      obtain rfl : ap = some ⟨bp, op, none⟩ := hap.at_.resolve_left (by omega)
      have hwj : (p[j]).wt ≤ 2147483647 := by have := wtP_mem (List.getElem_mem hjl); omega
      have HTP : Hid (p.take (j + 1) = p.take j ++ [p[j]]) := by show _ = _; rw [List.take_succ_eq_append_getElem hjl]
      have hkw : ∀ b, S b → wO.heap[b]? = w.heap[b]? := fun b hb => bO.block b (hS b hb)
      have hlj' := El.lies_keep (S' := S) hkw (fun _ h => h) hlj
      have hrow' := hrow.keep (hkw _ hSb)
      have hllp : (p.take j).length = j := by simp; omega
      rcases hej : p[j] with ⟨k, nm, m, v⟩
      rw [hej] at hwj HTP hlj'
      obtain ⟨am, cm, bm, om, is, rfl, hk, hnm, ham, hm, hv⟩ := hlj'
      dsimp only at hk hnm ham hm hv
      obtain ⟨xk, xb, xi, xs, xal, xnl, xcl, xam, xnm, xcm, rfl⟩ := V.ten hv
      have HM := hmk hm
      have HV := hmk hv
      have hwv : v.wt ≤ 2147483648 := by unfold El.wt at hwj; dsimp only at hwj; omega
      have hwm : wtM m ≤ 2147483647 := by unfold El.wt at hwj; dsimp only at hwj; omega
      have hmm := wtM_len m
      have HROW := hmk hrow'
      obtain ⟨q0, q1, q2, q3, q4, q5, q6, q7, q8⟩ := row9 hrow'
      have t0 : TpF wO #[.int .i64 k, .string nm, .slice none 0 0, .int .i64 xk, .bool xb, .int .i64 xi, .string xs, .slice xal xnl xcl, .slice xam xnm xcm] (wO.alloc (.cells #[.int .i64 k, .string nm, .slice none 0 0, .int .i64 xk, .bool xb, .int .i64 xi, .string xs, .slice xal xnl xcl, .slice xam xnm xcm] 60)) := ⟨(Below.refl _ _).alloc (Nat.le_refl _) _, heap_alloc_new _ _⟩
      clear hrow hlj hrow' hm hv hej hkw
      go_wp2_with fail
      clear q0 q1 q2 q3 q4 q5 q6 q7 q8
      go_loopw [6] (fun e wq => ∃ (i : Nat) (smv : Value) (SM : Nat → Prop), i ≤ m.length ∧ e = .int .i64 (i : Int) ∧ TpF wO #[.int .i64 k, .string nm, smv, .int .i64 xk, .bool xb, .int .i64 xi, .string xs, .slice xal xnl xcl, .slice xam xnm xcm] wq ∧ OwnM false wq 0 SM smv ((m.map some).take i) ∧ Hid (∀ r, smv.ownBlock = some r → wO.heap.size + 1 ≤ r) ∧ Hid (∀ b, SM b → S b ∨ wO.heap.size + 1 ≤ b)) (fun e _ => m.length - (RowKit.intOf e).toNat)
      case atStart => exact ⟨0, _, _, by omega, rfl, t0, by simpa using OwnR.nil _ _, fun r h => by simp [Value.ownBlock] at h, fun b (h : False) => h.elim⟩
      case round =>
        clear t0
        obtain ⟨i, smv, SM, hi, rfl, tj, oj, HOM, HSM⟩ := hrel
        have hwr : wO.heap.size + 1 ≤ wr.heap.size := tj.lt
        have HSw : Hid (∀ b, S b → b < wO.heap.size) := fun b hb => Nat.lt_of_lt_of_le (HS.out b hb) hzO
        have hbpS := HSw.out _ hSb
        obtain ⟨q0, q1, q2, q3, q4, q5, q6, q7, q8⟩ := row9 (HROW.out.keep (tj.below.block bp hbpS))
        by_cases hil : i < m.length
        · have y4 : (i : Int) < m.length := by omega
          obtain ⟨hSm, hks, csi, hrw, hli⟩ := liesM_get HM.out i hil
          obtain rfl : am = some ⟨bm, om, none⟩ := ham.at_.resolve_left (by omega)
          have hkw : ∀ b, S b → wr.heap[b]? = wO.heap[b]? := fun b hb => tj.below.block b (HSw.out b hb)
          have hrw' := hrw.keep (hkw _ hSm)
          have hli' := V.lies_keep (R' := false) (S' := S) (fun h => h) hkw (fun _ h => h) _ hli
          have hwi : (m[i]).2.wt ≤ 2147483648 := by have := wtM_mem (List.getElem_mem hil); omega
          have ih := hmk (twv_any (m[i]).2 0 S csi wr (by omega) (by omega) hli' (fun b hb => by have := HSw.out b hb; omega) hwi)
          have HT : Hid ((m.map some).take (i + 1) = (m.map some).take i ++ [some m[i]]) := by show _ = _; rw [List.take_succ_eq_append_getElem (by simpa using hil), List.getElem_map]
          obtain ⟨ek, eb, ei, es, eal, enl, ecl, eam, enm, ecm, rfl⟩ := V.ten hli'
          rcases hxj : m[i] with ⟨key, xv⟩
          rw [hxj] at ih HT hks hrw'
          obtain ⟨r, r0, r1, r2, r3, r4, r5⟩ := row7 hrw'
          have hll : ((m.map some).take i).length = i := by simp; omega
          have hbS := HSw.out _ hSm
          clear hli hrw hrw' hxj hli' hwi
          go_wp2_with fail
          refine ih.out.mono ?_
          rintro e w3 ⟨csu, rfl, hx3, bl3⟩
          obtain ⟨uk, ub, ui, us, ual, unl, ucl, uam, unm, ucm, rfl⟩ := V.ten hx3
          have t3 := tj.grown (grown_of_below bl3) (fun r e => by cases e)
          have o3 := oj.below (keepM false) bl3
          have hw3 : wO.heap.size + 1 ≤ w3.heap.size := t3.lt
          have hz3 := bl3.size
          have hown : ∀ r, smv.ownBlock = some r → wO.heap.size + 1 ≤ r ∧ r < wr.heap.size := fun r hr => ⟨HOM.out r hr, (oj.lt hr).2⟩
          have HK : Hid (∀ b, Tw S wr w3 b → 0 ≤ b ∧ b < w3.heap.size ∧ some b ≠ smv.ownBlock) := fun b hb => by
            rcases hb with hb | hb
            · have := HSw.out b hb
              exact ⟨Nat.zero_le _, by omega, fun e => by have := (hown b e.symm).1; omega⟩
            · exact ⟨Nat.zero_le _, hb.2, fun e => by have := (hown b e.symm).2; omega⟩
          have tw : ∀ o, TpF wO _ (w3.alloc o) := fun o => t3.grown (World.grownBy_alloc w3 o none) (fun r e => by cases e)
          have e5 : ∀ o, (w3.alloc o).cell? ⟨wO.heap.size, 2, none⟩ = some smv := fun o => by rw [cell_of_block (tw o).b2]; rfl
          have e5c : ∀ o o', ((w3.alloc o).alloc o').cell? ⟨wO.heap.size, 2, none⟩ = some smv := fun o o' => by rw [cell_of_block ((tw o).grown (World.grownBy_alloc _ o' none) (fun r e => by cases e)).b2]; rfl
          have hq : ∀ (o : Obj) {u : Value} {b p : Nat}, wr.cell? ⟨b, p, none⟩ = some u → (w3.alloc o).cell? ⟨b, p, none⟩ = some u := fun o u b p h => ((grown_of_below bl3).trans' o).cell h (by simp)
          have e5b := fun o => hq o q2
          have q' := fun o => hq o r
          have HG : Hid (∀ (o o' : Obj) (g : Nat), (smv.ownBlock = some g ∨ ((w3.alloc o).alloc o').drew.heap.size ≤ g) → wO.heap.size + 1 ≤ g) := fun o o' g e => by
            rcases e with e | e
            · exact (hown g e).1
            · have e2 : ((w3.alloc o).alloc o').drew.heap.size = w3.heap.size + 1 + 1 := by show ((w3.alloc o).alloc o').heap.size = _; rw [alloc_size, alloc_size]
              omega
          have HS5 : Hid (∀ b, SM b ∨ Tw S wr w3 b → S b ∨ wO.heap.size + 1 ≤ b) := fun b hb => by
            rcases hb with hb | hb | hb
            · exact HSM.out b hb
            · exact .inl hb
            · exact .inr (by have := hb.1; omega)
          have HN5 : Hid (¬ (SM wO.heap.size ∨ Tw S wr w3 wO.heap.size)) := fun hb => by
            rcases HS5.out _ hb with h | h
            · have := HSw.out _ h; omega
            · omega
          have T5 : ∀ (o o' : Obj) (w5 : World), ((w3.alloc o).alloc o').drew.grownBy w5 smv.ownBlock → TpF wO _ w5 := fun o o' w5 g5 =>
            (((tw o).grown (World.grownBy_alloc _ o' none) (fun r e => by cases e)).grown (grown_drew _ none) (fun r e => by cases e)).grown g5 (fun r e => (hown r e).1)
          go_wp2_with fail
          go_region_law (refine step_push (keepM false) rfl (.tmp 40) (.tmp 52) 31 rfl 0 i1 _ 104 Tryz.underlying31 hJ.out.1 hJ.out.2.1 hJ.out.2.2.1 hJ.out.2.2.2 rfl (by decide) (by decide) smv (some (key, xv)) rfl (((o3.alloc (keepM false) _).alloc (keepM false) _).drew (keepM false)) (w3.heap.size + 1) 1 (0, 0) rfl (alloc2_new w3 _ _) rfl one7 (keepM false _ _ _ _ _ _ (fun b hb => alloc2_keep w3 _ _ (HK.out b hb).2.1) (fun _ h => h) ⟨_, rfl, hks, hx3⟩) (fun b hb => alloc2_off (HK.out b hb)) (by rw [hll]; omega) (Nat.zero_le _) ?_; intro g cap w5 o5 g5 e9; rw [hll] at o5 ⊢; have t5 := T5 _ _ w5 g5; have hgg := HG.out _ _ g e9; have e6 : w5.cell? ⟨wO.heap.size, 2, none⟩ = some smv := by { rw [cell_of_block t5.b2]; rfl }; have e7 : w5.frozen? ⟨wO.heap.size, 2, none⟩ = false := frozen_of_block t5.b2 2)
          all_goals go_wp2_with fail
          all_goals go_roundw
          all_goals first
            | exact ⟨i + 1, _, _, by omega, by go_num, t5.set 2 _ rfl, by rw [HT.out]; exact o5.set0 (keepM false) HN5.out (fun e => by simp [Value.ownBlock] at e; omega) _ _, fun r e => by (simp [Value.ownBlock] at e; omega), HS5.out⟩
            | exact ⟨_, _, _, _, _, _, _, _, _, _, _, _, _, _, _, _, _, _, _, _, _, _, _, _, _, _, _, _, _, _, _, _, _, _, _, _, _, _, _, _, ⟨i + 1, _, _, by omega, by go_num, t5.set 2 _ rfl, by rw [HT.out]; exact o5.set0 (keepM false) HN5.out (fun e => by simp [Value.ownBlock] at e; omega) _ _, fun r e => by (simp [Value.ownBlock] at e; omega), HS5.out⟩, rfl⟩
            | (simp [RowKit.intOf]; omega)
        · obtain rfl : i = m.length := by omega
          have hlt : (m.map some).take m.length = m.map some := by rw [List.take_of_length_le (by simp)]
          rw [hlt] at oj
          clear hlt
          have y4 : ¬ (m.length : Int) < m.length := by omega
          have hown : ∀ r, smv.ownBlock = some r → wO.heap.size + 1 ≤ r ∧ r < wr.heap.size := fun r hr => ⟨HOM.out r hr, (oj.lt hr).2⟩
          have c2 := hmk (twv_any v 0 S _ wr (by omega) (by omega) (V.lies_keep (R' := false) (S' := S) (fun h => h) (fun b hb => tj.below.block b (HSw.out b hb)) (fun _ h => h) _ HV.out) (fun b hb => by have := HSw.out b hb; omega) hwv)
          go_wp2_with fail
          refine c2.out.mono ?_
          rintro e w2 ⟨csu, rfl, hx2, bl2⟩
          obtain ⟨uk, ub, ui, us, ual, unl, ucl, uam, unm, ucm, rfl⟩ := V.ten hx2
          have hz2 := bl2.size
          have t2 := tj.grown (grown_of_below bl2) (fun r e => by cases e)
          have o2 := oj.below (keepM false) bl2
          have t21 : TpF wO #[.int .i64 k, .string nm, smv, .int .i64 uk, .bool xb, .int .i64 xi, .string xs, .slice xal xnl xcl, .slice xam xnm xcm] (w2.setCell ⟨wO.heap.size, 3, none⟩ (.int .i64 uk)) := t2.set 3 (.int .i64 uk) rfl
          have t22 : TpF wO #[.int .i64 k, .string nm, smv, .int .i64 uk, .bool ub, .int .i64 xi, .string xs, .slice xal xnl xcl, .slice xam xnm xcm] ((w2.setCell ⟨wO.heap.size, 3, none⟩ (.int .i64 uk)).setCell ⟨wO.heap.size, 4, none⟩ (.bool ub)) := t21.set 4 (.bool ub) rfl
          have t23 : TpF wO #[.int .i64 k, .string nm, smv, .int .i64 uk, .bool ub, .int .i64 ui, .string xs, .slice xal xnl xcl, .slice xam xnm xcm] (((w2.setCell ⟨wO.heap.size, 3, none⟩ (.int .i64 uk)).setCell ⟨wO.heap.size, 4, none⟩ (.bool ub)).setCell ⟨wO.heap.size, 5, none⟩ (.int .i64 ui)) := t22.set 5 (.int .i64 ui) rfl
          have t24 : TpF wO #[.int .i64 k, .string nm, smv, .int .i64 uk, .bool ub, .int .i64 ui, .string us, .slice xal xnl xcl, .slice xam xnm xcm] ((((w2.setCell ⟨wO.heap.size, 3, none⟩ (.int .i64 uk)).setCell ⟨wO.heap.size, 4, none⟩ (.bool ub)).setCell ⟨wO.heap.size, 5, none⟩ (.int .i64 ui)).setCell ⟨wO.heap.size, 6, none⟩ (.string us)) := t23.set 6 (.string us) rfl
          have t25 : TpF wO #[.int .i64 k, .string nm, smv, .int .i64 uk, .bool ub, .int .i64 ui, .string us, .slice ual unl ucl, .slice xam xnm xcm] (((((w2.setCell ⟨wO.heap.size, 3, none⟩ (.int .i64 uk)).setCell ⟨wO.heap.size, 4, none⟩ (.bool ub)).setCell ⟨wO.heap.size, 5, none⟩ (.int .i64 ui)).setCell ⟨wO.heap.size, 6, none⟩ (.string us)).setCell ⟨wO.heap.size, 7, none⟩ (.slice ual unl ucl)) := t24.set 7 (.slice ual unl ucl) rfl
          have t3 : TpF wO #[.int .i64 k, .string nm, smv, .int .i64 uk, .bool ub, .int .i64 ui, .string us, .slice ual unl ucl, .slice uam unm ucm] ((((((w2.setCell ⟨wO.heap.size, 3, none⟩ (.int .i64 uk)).setCell ⟨wO.heap.size, 4, none⟩ (.bool ub)).setCell ⟨wO.heap.size, 5, none⟩ (.int .i64 ui)).setCell ⟨wO.heap.size, 6, none⟩ (.string us)).setCell ⟨wO.heap.size, 7, none⟩ (.slice ual unl ucl)).setCell ⟨wO.heap.size, 8, none⟩ (.slice uam unm ucm)) := t25.set 8 (.slice uam unm ucm) rfl
          clear t21 t22 t23 t24 t25
          have gS : w2.grownBy ((((((w2.setCell ⟨wO.heap.size, 3, none⟩ (.int .i64 uk)).setCell ⟨wO.heap.size, 4, none⟩ (.bool ub)).setCell ⟨wO.heap.size, 5, none⟩ (.int .i64 ui)).setCell ⟨wO.heap.size, 6, none⟩ (.string us)).setCell ⟨wO.heap.size, 7, none⟩ (.slice ual unl ucl)).setCell ⟨wO.heap.size, 8, none⟩ (.slice uam unm ucm)) (some wO.heap.size) := grown_set (grown_set (grown_set (grown_set (grown_set (grown_set (World.grownBy.refl _ _) _ _) _ _) _ _) _ _) _ _) _ _
          have hzs : ((((((w2.setCell ⟨wO.heap.size, 3, none⟩ (.int .i64 uk)).setCell ⟨wO.heap.size, 4, none⟩ (.bool ub)).setCell ⟨wO.heap.size, 5, none⟩ (.int .i64 ui)).setCell ⟨wO.heap.size, 6, none⟩ (.string us)).setCell ⟨wO.heap.size, 7, none⟩ (.slice ual unl ucl)).setCell ⟨wO.heap.size, 8, none⟩ (.slice uam unm ucm)).heap.size = w2.heap.size := by simp only [size_set1]
          have o3 := o2.keep (keepM false) gS (fun r e => by cases e; exact ⟨fun h => (HSM.out _ h).elim (fun h => by have := HSw.out _ h; omega) (fun h => by omega), fun h => by have := (hown _ h).1; omega⟩)
          obtain ⟨ta, tc, tb', tq, rfl, hdm, hMs⟩ := own_listM0 (T := fun b => S b ∨ (wO.heap.size + 1 ≤ b ∧ b < ((((((w2.setCell ⟨wO.heap.size, 3, none⟩ (.int .i64 uk)).setCell ⟨wO.heap.size, 4, none⟩ (.bool ub)).setCell ⟨wO.heap.size, 5, none⟩ (.int .i64 ui)).setCell ⟨wO.heap.size, 6, none⟩ (.string us)).setCell ⟨wO.heap.size, 7, none⟩ (.slice ual unl ucl)).setCell ⟨wO.heap.size, 8, none⟩ (.slice uam unm ucm)).heap.size)) o3 (fun b hb => (HSM.out b hb).imp id (fun h => ⟨h, (o3.off b hb).2.1⟩)) (fun g hg => .inr ⟨(hown g hg).1, (o3.lt hg).2⟩)
          have HLE : Hid (El.lies ((((((w2.setCell ⟨wO.heap.size, 3, none⟩ (.int .i64 uk)).setCell ⟨wO.heap.size, 4, none⟩ (.bool ub)).setCell ⟨wO.heap.size, 5, none⟩ (.int .i64 ui)).setCell ⟨wO.heap.size, 6, none⟩ (.string us)).setCell ⟨wO.heap.size, 7, none⟩ (.slice ual unl ucl)).setCell ⟨wO.heap.size, 8, none⟩ (.slice uam unm ucm)) (fun b => S b ∨ (wO.heap.size + 1 ≤ b ∧ b < ((((((w2.setCell ⟨wO.heap.size, 3, none⟩ (.int .i64 uk)).setCell ⟨wO.heap.size, 4, none⟩ (.bool ub)).setCell ⟨wO.heap.size, 5, none⟩ (.int .i64 ui)).setCell ⟨wO.heap.size, 6, none⟩ (.string us)).setCell ⟨wO.heap.size, 7, none⟩ (.slice ual unl ucl)).setCell ⟨wO.heap.size, 8, none⟩ (.slice uam unm ucm)).heap.size)) ⟨k, nm, m, v⟩ [.int .i64 k, .string nm, .slice ta m.length tc, .int .i64 uk, .bool ub, .int .i64 ui, .string us, .slice ual unl ucl, .slice uam unm ucm]) :=
            ⟨ta, tc, tb', tq, _, rfl, hk, hnm, hdm, hMs, V.lies_keep (fun h => h) (fun x hx => gS.block x (hx.elim (fun h => by have := HSw.out x h; omega) (fun h => h.2)) (fun e => by have h9 := Option.some.inj e; exact hx.elim (fun h => by have := HSw.out x h; omega) (fun h => by have := h.1; omega))) (fun x hx => hx.imp id (fun h => ⟨by have := h.1; omega, by rw [hzs]; exact h.2⟩)) _ hx2⟩
          have p2 : OwnP w2 0 SP u3 (p.take j) := (oO.below keepP tj.below).below keepP bl2
          have hownP : ∀ r, u3.ownBlock = some r → w.heap.size ≤ r ∧ r < wO.heap.size := fun r hr => ⟨HO.out r hr, (oO.lt hr).2⟩
          have p3 : OwnP ((((((w2.setCell ⟨wO.heap.size, 3, none⟩ (.int .i64 uk)).setCell ⟨wO.heap.size, 4, none⟩ (.bool ub)).setCell ⟨wO.heap.size, 5, none⟩ (.int .i64 ui)).setCell ⟨wO.heap.size, 6, none⟩ (.string us)).setCell ⟨wO.heap.size, 7, none⟩ (.slice ual unl ucl)).setCell ⟨wO.heap.size, 8, none⟩ (.slice uam unm ucm)) 0 SP u3 (p.take j) := p2.keep keepP gS (fun r e => by cases e; exact ⟨fun h => by have := (oO.off _ h).2.1; omega, fun h => by have := (hownP _ h).2; omega⟩)
          have bT := t3.below
          have z0 : ∀ i, w2.frozen? ⟨wO.heap.size, i, none⟩ = false := frozen_of_block t2.b2
          have a0 : w2.cell? ⟨wO.heap.size, 0, none⟩ = some (.int .i64 k) := by rw [cell_of_block t2.b2]; rfl
          have a1 : w2.cell? ⟨wO.heap.size, 1, none⟩ = some (.string nm) := by rw [cell_of_block t2.b2]; rfl
          have a2 : w2.cell? ⟨wO.heap.size, 2, none⟩ = some (.slice ta m.length tc) := by rw [cell_of_block t2.b2]; rfl
          have a3 : w2.cell? ⟨wO.heap.size, 3, none⟩ = some (.int .i64 xk) := by rw [cell_of_block t2.b2]; rfl
          have a4 : w2.cell? ⟨wO.heap.size, 4, none⟩ = some (.bool xb) := by rw [cell_of_block t2.b2]; rfl
          have a5 : w2.cell? ⟨wO.heap.size, 5, none⟩ = some (.int .i64 xi) := by rw [cell_of_block t2.b2]; rfl
          have a6 : w2.cell? ⟨wO.heap.size, 6, none⟩ = some (.string xs) := by rw [cell_of_block t2.b2]; rfl
          have a7 : w2.cell? ⟨wO.heap.size, 7, none⟩ = some (.slice xal xnl xcl) := by rw [cell_of_block t2.b2]; rfl
          have a8 : w2.cell? ⟨wO.heap.size, 8, none⟩ = some (.slice xam xnm xcm) := by rw [cell_of_block t2.b2]; rfl
          have b0 : ((((((w2.setCell ⟨wO.heap.size, 3, none⟩ (.int .i64 uk)).setCell ⟨wO.heap.size, 4, none⟩ (.bool ub)).setCell ⟨wO.heap.size, 5, none⟩ (.int .i64 ui)).setCell ⟨wO.heap.size, 6, none⟩ (.string us)).setCell ⟨wO.heap.size, 7, none⟩ (.slice ual unl ucl)).setCell ⟨wO.heap.size, 8, none⟩ (.slice uam unm ucm)).cell? ⟨wO.heap.size, 0, none⟩ = some (.int .i64 k) := by rw [cell_of_block t3.b2]; rfl
          have b1 : ((((((w2.setCell ⟨wO.heap.size, 3, none⟩ (.int .i64 uk)).setCell ⟨wO.heap.size, 4, none⟩ (.bool ub)).setCell ⟨wO.heap.size, 5, none⟩ (.int .i64 ui)).setCell ⟨wO.heap.size, 6, none⟩ (.string us)).setCell ⟨wO.heap.size, 7, none⟩ (.slice ual unl ucl)).setCell ⟨wO.heap.size, 8, none⟩ (.slice uam unm ucm)).cell? ⟨wO.heap.size, 1, none⟩ = some (.string nm) := by rw [cell_of_block t3.b2]; rfl
          have b2 : ((((((w2.setCell ⟨wO.heap.size, 3, none⟩ (.int .i64 uk)).setCell ⟨wO.heap.size, 4, none⟩ (.bool ub)).setCell ⟨wO.heap.size, 5, none⟩ (.int .i64 ui)).setCell ⟨wO.heap.size, 6, none⟩ (.string us)).setCell ⟨wO.heap.size, 7, none⟩ (.slice ual unl ucl)).setCell ⟨wO.heap.size, 8, none⟩ (.slice uam unm ucm)).cell? ⟨wO.heap.size, 2, none⟩ = some (.slice ta m.length tc) := by rw [cell_of_block t3.b2]; rfl
          have b3 : ((((((w2.setCell ⟨wO.heap.size, 3, none⟩ (.int .i64 uk)).setCell ⟨wO.heap.size, 4, none⟩ (.bool ub)).setCell ⟨wO.heap.size, 5, none⟩ (.int .i64 ui)).setCell ⟨wO.heap.size, 6, none⟩ (.string us)).setCell ⟨wO.heap.size, 7, none⟩ (.slice ual unl ucl)).setCell ⟨wO.heap.size, 8, none⟩ (.slice uam unm ucm)).cell? ⟨wO.heap.size, 3, none⟩ = some (.int .i64 uk) := by rw [cell_of_block t3.b2]; rfl
          have b4 : ((((((w2.setCell ⟨wO.heap.size, 3, none⟩ (.int .i64 uk)).setCell ⟨wO.heap.size, 4, none⟩ (.bool ub)).setCell ⟨wO.heap.size, 5, none⟩ (.int .i64 ui)).setCell ⟨wO.heap.size, 6, none⟩ (.string us)).setCell ⟨wO.heap.size, 7, none⟩ (.slice ual unl ucl)).setCell ⟨wO.heap.size, 8, none⟩ (.slice uam unm ucm)).cell? ⟨wO.heap.size, 4, none⟩ = some (.bool ub) := by rw [cell_of_block t3.b2]; rfl
          have b5 : ((((((w2.setCell ⟨wO.heap.size, 3, none⟩ (.int .i64 uk)).setCell ⟨wO.heap.size, 4, none⟩ (.bool ub)).setCell ⟨wO.heap.size, 5, none⟩ (.int .i64 ui)).setCell ⟨wO.heap.size, 6, none⟩ (.string us)).setCell ⟨wO.heap.size, 7, none⟩ (.slice ual unl ucl)).setCell ⟨wO.heap.size, 8, none⟩ (.slice uam unm ucm)).cell? ⟨wO.heap.size, 5, none⟩ = some (.int .i64 ui) := by rw [cell_of_block t3.b2]; rfl
          have b6 : ((((((w2.setCell ⟨wO.heap.size, 3, none⟩ (.int .i64 uk)).setCell ⟨wO.heap.size, 4, none⟩ (.bool ub)).setCell ⟨wO.heap.size, 5, none⟩ (.int .i64 ui)).setCell ⟨wO.heap.size, 6, none⟩ (.string us)).setCell ⟨wO.heap.size, 7, none⟩ (.slice ual unl ucl)).setCell ⟨wO.heap.size, 8, none⟩ (.slice uam unm ucm)).cell? ⟨wO.heap.size, 6, none⟩ = some (.string us) := by rw [cell_of_block t3.b2]; rfl
          have b7 : ((((((w2.setCell ⟨wO.heap.size, 3, none⟩ (.int .i64 uk)).setCell ⟨wO.heap.size, 4, none⟩ (.bool ub)).setCell ⟨wO.heap.size, 5, none⟩ (.int .i64 ui)).setCell ⟨wO.heap.size, 6, none⟩ (.string us)).setCell ⟨wO.heap.size, 7, none⟩ (.slice ual unl ucl)).setCell ⟨wO.heap.size, 8, none⟩ (.slice uam unm ucm)).cell? ⟨wO.heap.size, 7, none⟩ = some (.slice ual unl ucl) := by rw [cell_of_block t3.b2]; rfl
          have b8 : ((((((w2.setCell ⟨wO.heap.size, 3, none⟩ (.int .i64 uk)).setCell ⟨wO.heap.size, 4, none⟩ (.bool ub)).setCell ⟨wO.heap.size, 5, none⟩ (.int .i64 ui)).setCell ⟨wO.heap.size, 6, none⟩ (.string us)).setCell ⟨wO.heap.size, 7, none⟩ (.slice ual unl ucl)).setCell ⟨wO.heap.size, 8, none⟩ (.slice uam unm ucm)).cell? ⟨wO.heap.size, 8, none⟩ = some (.slice uam unm ucm) := by rw [cell_of_block t3.b2]; rfl
          have HKp : Hid (∀ b, (S b ∨ (wO.heap.size + 1 ≤ b ∧ b < ((((((w2.setCell ⟨wO.heap.size, 3, none⟩ (.int .i64 uk)).setCell ⟨wO.heap.size, 4, none⟩ (.bool ub)).setCell ⟨wO.heap.size, 5, none⟩ (.int .i64 ui)).setCell ⟨wO.heap.size, 6, none⟩ (.string us)).setCell ⟨wO.heap.size, 7, none⟩ (.slice ual unl ucl)).setCell ⟨wO.heap.size, 8, none⟩ (.slice uam unm ucm)).heap.size)) → 0 ≤ b ∧ b < ((((((w2.setCell ⟨wO.heap.size, 3, none⟩ (.int .i64 uk)).setCell ⟨wO.heap.size, 4, none⟩ (.bool ub)).setCell ⟨wO.heap.size, 5, none⟩ (.int .i64 ui)).setCell ⟨wO.heap.size, 6, none⟩ (.string us)).setCell ⟨wO.heap.size, 7, none⟩ (.slice ual unl ucl)).setCell ⟨wO.heap.size, 8, none⟩ (.slice uam unm ucm)).heap.size ∧ some b ≠ u3.ownBlock) := fun b hb => by
            rcases hb with hb | hb
            · have h7 := HSw.out b hb
              have h8 := HS.out b hb
              exact ⟨Nat.zero_le _, by omega, fun e => by have := (hownP b e.symm).1; omega⟩
            · exact ⟨Nat.zero_le _, hb.2, fun e => by have := (hownP b e.symm).2; omega⟩
          have HP3 := hmk p3
          have HBT := hmk bT
          have HHM := hmk hdm
          clear p3 p2 o3 o2 oj t3 t2 hMs hx2 oO bT gS hdm c2 tj
          go_wp2_with (at_builtin; go_loud (refine wpl_push keepP _ rfl (.tmp 62) (.tmp 64) 25 rfl 0 i0 _ 136 Tryz.underlying25 hI.out.1 hI.out.2.1 hI.out.2.2.1 hI.out.2.2.2 rfl (by decide) (by decide) u3 (⟨k, nm, m, v⟩ : El) rfl (HP3.out.alloc keepP _) w2.heap.size 1 (0, 0) rfl (by rw [← hzs]; exact heap_alloc_new _ _) rfl one9 (keepP _ _ _ _ _ _ (fun b hb => Below.heap_alloc _ _ b (HKp.out b hb).2.1) (fun _ h => h) HLE.out) (fun b hb => ⟨(HKp.out b hb).1, by rw [alloc_size]; have := (HKp.out b hb).2.1; omega, (HKp.out b hb).2.2⟩) (by rw [hllp]; omega) (Nat.zero_le _) ?_))
          intro g cap w5 o5 g5 e5
          have hg : w.heap.size ≤ g := by
            rcases e5 with e | e
            · exact (hownP g e).1
            · (try rw [alloc_size] at e); omega
          have b5 : Below w.heap.size w w5 := ((bO.trans (HBT.out.mono hzO)).alloc (by rw [hzs]; omega) _).grown g5 (by rw [alloc_size, hzs]; omega) (fun r e => (hownP r e).1)
          go_wp2_with fail
          go_roundw
          case rel => exact ⟨j + 1, _, _, by omega, by go_num, rfl, b5, by rw [HTP.out]; simpa using o5, fun r e => by (simp [Value.ownBlock] at e; omega), fun b hb => by
            rcases hb with hb | hb | hb
            · exact HSP.out b hb
            · exact .inl hb
            · exact .inr (by have := hb.1; omega)⟩
          case measure => simp [RowKit.intOf]; omega
    · obtain rfl : j = p.length := by omega
      have y3 : ¬ (p.length : Int) < p.length := by omega
      rw [List.take_length] at oO
      obtain ⟨sa, sc, sb, so, rfl, hdl, hLs⟩ := own_listP (T := Tw S w wO) oO (fun b hb => (HSP.out b hb).imp id (fun h => ⟨h, (oO.off b hb).2.1⟩)) (fun g hg => .inr ⟨HO.out g hg, (oO.lt hg).2⟩)
      have HB := hmk bO
      have HLs := hmk hLs
      clear oO hLs bO
      go_wp2_with fail
      go_ret
      exact ⟨sa, sc, sb, so, rfl, hdl, HLs.out, HB.out⟩
end Go.Proofs.YtfekgeaopchilaaGreatDoor
