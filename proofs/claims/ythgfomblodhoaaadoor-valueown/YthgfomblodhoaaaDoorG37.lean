/- joined: BldY BldX -/
import Derived.Test.YthgfomblodhoaaaDoorMpfX
/- build_ap: the answer's lists and maps, each in a block of its own. -/
set_option linter.unusedSimpArgs false
set_option linter.unusedVariables false
namespace Go.Proofs.YthgfomblodhoaaaDoor
open Go.RowKit Go.Lib
def BaPost (l : List Mem) (w : World) (e : Ending) (w' : World) : Prop :=
  (bldOk l = false ∧ VaPost nullV 20 w e w') ∨ (bldOk l = true ∧ ∃ l', l'.Perm l ∧ Wkl l' ∧ VaPost (mapV l') (mapE l') w e w')
set_option maxHeartbeats 1600000 in
set_option maxRecDepth 100000 in
theorem build_ap (l : List Mem) (R : Bool) (S : Nat → Prop) (am : Option Addr) (cm bm om : Nat) (w : World) (tb : Tb w) (hat : am = some ⟨bm, om, none⟩) (hl : liesM R w S l bm om) (hS : ∀ b, S b → b < w.heap.size) (hwt : wtM l ≤ 562949953421300) (hkq : ∀ y ∈ l, y.1.size ≤ 281474976710656) (hwv : ∀ x ∈ l, x.2.wt ≤ 1099511627776) (hln : l.length ≤ 1099511627776) :
    Calls Tryd.prog 10 #[.slice am l.length cm] w (BaPost l w) := by
  have hlen := wtM_len l
  subst hat
  have hz0 := alloc_size w (.cells #[.int .i64 0, .bool false, .int .i64 0, .string ⟨#[]⟩, .slice none 0 0, .slice none 0 0] 25)
  have B0 : Below w.heap.size w (w.alloc (.cells #[.int .i64 0, .bool false, .int .i64 0, .string ⟨#[]⟩, .slice none 0 0, .slice none 0 0] 25)) := (Below.refl _ _).alloc (Nat.le_refl _) _
  have h0 := heap_alloc_new w (.cells #[.int .i64 0, .bool false, .int .i64 0, .string ⟨#[]⟩, .slice none 0 0, .slice none 0 0] 25)
  have HM : Hid (∀ W, Below w.heap.size w W → liesM R W S l bm om ∧ (∀ b, S b → b < W.heap.size)) := fun W hb => ⟨liesM_keep (fun h => h) (fun x hx => hb.block x (hS x hx)) (fun _ h => h) _ hl, fun x hx => Nat.lt_of_lt_of_le (hS x hx) hb.size⟩
  have HB : Hid (∀ W, Below w.heap.size w W → Tb W) := fun W hb => tb.below hb tb.z
  have HW : Hid (∀ j (h : j < l.length), (l[j]).2.wt ≤ 1099511627776) := fun j h => hwv _ (List.getElem_mem h)
  clear hl tb
  go_enter Tryd.func10, Tryd.ntmps10
  go_wp2_with fail
  generalize (w.alloc (.cells #[.int .i64 0, .bool false, .int .i64 0, .string ⟨#[]⟩, .slice none 0 0, .slice none 0 0] 25)) = w0 at *
  have K0 : Hid (∀ W, Below w0.heap.size w0 W → Below w.heap.size w W ∧ W.heap[w.heap.size]? = some (.cells #[.int .i64 0, .bool false, .int .i64 0, .string ⟨#[]⟩, .slice none 0 0, .slice none 0 0] 25 (0, 0))) := fun W hb => ⟨B0.trans (hb.mono (by omega)), (hb.block _ (by omega)).trans h0⟩
  clear h0 B0
  go_loopw [8] (fun e wr => ∃ j : Nat, j ≤ l.length ∧ e = .int .i64 (j : Int) ∧ Hid (∀ i (h : i < l.length), i < j → okV (l[i]).2 = true) ∧ Hid (Below w0.heap.size w0 wr)) (fun e _ => l.length - (RowKit.intOf e).toNat)
  case atStart => exact ⟨0, by omega, rfl, (fun i hi hij => by omega), Below.refl _ _⟩
  case round =>
    obtain ⟨j, hj, rfl, HO, bj⟩ := hrel
    have hzr := bj.out.size
    obtain ⟨Bj, tj⟩ := K0.out wr bj.out
    by_cases hjl : j < l.length
    · have y1 : (j : Int) < l.length := by omega
      obtain ⟨hSb, hks, csj, hrow, hlj⟩ := liesM_get (HM.out wr Bj).1 j hjl
      have HJ : Hid ((l[j]).2.lies R wr S csj) := hlj
      obtain ⟨ek, eb, ei, es, eal, enl, ecl, eam, enm, ecm, rfl⟩ := V.ten hlj
      obtain ⟨ekey, hek⟩ : ∃ ekey, (l[j]).1 = ekey := ⟨_, rfl⟩
      rw [hek] at hrow
      obtain ⟨q, q0, q1, q2, q3, q4, q5⟩ := row7 hrow
      have hza := alloc_size wr (.cells #[.string ekey, .int .i64 ek, .bool eb, .int .i64 ei, .string es, .slice eal enl ecl, .slice eam enm ecm] 38)
      have ba : Below wr.heap.size wr (wr.alloc (.cells #[.string ekey, .int .i64 ek, .bool eb, .int .i64 ei, .string es, .slice eal enl ecl, .slice eam enm ecm] 38)) := (Below.refl _ _).alloc (Nat.le_refl _) _
      have HC : Hid (Calls Tryd.prog 30 #[.agg #[.int .i64 ek, .bool eb, .int .i64 ei, .string es, .slice eal enl ecl, .slice eam enm ecm]] (wr.alloc (.cells #[.string ekey, .int .i64 ek, .bool eb, .int .i64 ei, .string es, .slice eal enl ecl, .slice eam enm ecm] 38)) (BPost (okV (l[j]).2) (wr.alloc (.cells #[.string ekey, .int .i64 ek, .bool eb, .int .i64 ei, .string es, .slice eal enl ecl, .slice eam enm ecm] 38)))) :=
        taken_any R (l[j]).2 S _ _ (HB.out _ (Bj.trans (ba.mono Bj.size))) (V.lies_keep (fun h => h) (fun x hx => ba.block x ((HM.out wr Bj).2 x hx)) (fun _ h => h) _ HJ.out) (fun x hx => by have := (HM.out wr Bj).2 x hx; omega) (HW.out j hjl)
      have bz := bj.out.trans (ba.mono hzr)
      clear hlj hrow HJ hek ba
      go_wp2_with fail
      clear q q0 q1 q2 q3 q4 q5
      generalize (wr.alloc (.cells #[.string ekey, .int .i64 ek, .bool eb, .int .i64 ei, .string es, .slice eal enl ecl, .slice eam enm ecm] 38)) = wa at *
      refine HC.out.mono ?_
      rintro e w3 ⟨rfl, b3⟩
      have b4 := bz.trans (b3.mono bz.size)
      clear HC bz b3
      cases ho : okV (l[j]).2 with
      | true =>
        have HO' : Hid (∀ i (h : i < l.length), i < j + 1 → okV (l[i]).2 = true) := fun i h hi => by
          rcases Nat.lt_or_ge i j with h1 | h1
          · exact HO.out i h h1
          · obtain rfl : i = j := by omega
            exact ho
        clear ho
        go_wp2_with fail
        go_roundw
        case rel => exact ⟨j + 1, by omega, by go_num, HO', b4⟩
        case measure => simp [RowKit.intOf]; omega
      | false =>
        have HN : Hid (bldOk l = false) := bld_no hjl ho
        obtain ⟨B4, t4⟩ := K0.out w3 b4
        have r0 : w3.cell? ⟨w.heap.size, 0, none⟩ = some (.int .i64 0) := by rw [cell_of_block t4]; rfl
        have r1 : w3.cell? ⟨w.heap.size, 1, none⟩ = some (.bool false) := by rw [cell_of_block t4]; rfl
        have r2 : w3.cell? ⟨w.heap.size, 2, none⟩ = some (.int .i64 0) := by rw [cell_of_block t4]; rfl
        have r3 : w3.cell? ⟨w.heap.size, 3, none⟩ = some (.string ⟨#[]⟩) := by rw [cell_of_block t4]; rfl
        have r4 : w3.cell? ⟨w.heap.size, 4, none⟩ = some (.slice none 0 0) := by rw [cell_of_block t4]; rfl
        have r5 : w3.cell? ⟨w.heap.size, 5, none⟩ = some (.slice none 0 0) := by rw [cell_of_block t4]; rfl
        have rf : ∀ i, w3.frozen? ⟨w.heap.size, i, none⟩ = false := frozen_of_block t4
        clear t4 ho tj Bj
        go_wp2_with fail
        (try simp only [Exit.inBlock, Exit.then])
        refine bodyPost_ret (v := .tuple #[.agg #[.int .i64 0, .bool false, .int .i64 0, .string ⟨#[]⟩, .slice none 0 0, .slice none 0 0], .int .i64 20]) ?_ rfl (.inl ⟨HN.out, [.int .i64 0, .bool false, .int .i64 0, .string ⟨#[]⟩, .slice none 0 0, .slice none 0 0], rfl, null_ap _ (by have := B4.size; simp only [size_set1]; omega), Below.set6 B4 (Nat.le_refl _) _ _ _ _ _ _ _ _ _ _ _ _⟩)
        rw [results_cell_tmp rfl]
        go_simp
    · obtain rfl : j = l.length := by omega
      have y1 : ¬ (l.length : Int) < l.length := by omega
      have HY : Hid (bldOk l = true) := bld_yes fun j hj => HO.out j hj hj
      obtain ⟨d, hd1, hd2, hd3⟩ := mc_of (HM.out wr Bj).1
      have hdl : d.length = l.length := by rw [← hd1]; simp
      have hc1 := mclone_any d bm om cm wr hd3 (by omega)
      rw [hdl] at hc1
      have HD : Hid ((d.map MC.mem = l) ∧ (∀ x ∈ d, x.key.size ≤ maxLen ∧ x.val.lies R wr S x.cs)) := ⟨hd1, hd2⟩
      have HSr : Hid (∀ b, S b → b < wr.heap.size) := (HM.out wr Bj).2
      clear hd1 hd2 hd3 HO tj
      go_wp2_with fail
      refine hc1.mono ?_
      rintro e w1 ⟨g, cap, rfl, hg, hgw, hcl, hcm, HH, b1⟩
      have hc2 := msort_any d g cap w1 HH hgw (by omega)
      rw [hdl] at hc2
      clear hc1 HH
      go_wp2_with fail
      refine hc2.mono ?_
      rintro e w2 ⟨rfl, d', hp, hs, hrow, hbl⟩
      have b2 := hbl wr.heap.size hg
      have hz2 := b2.size
      have hz1 := b1.size
      have br2 : Below wr.heap.size wr w2 := b1.trans b2
      have bz2 : Below w0.heap.size w0 w2 := bj.out.trans (br2.mono hzr)
      have hl' : (d'.map MC.mem).length = l.length := by rw [List.length_map, hp.length_eq, hdl]
      have hpl : (d'.map MC.mem).Perm l := HD.out.1 ▸ hp.map MC.mem
      have hwk : Wkl (d'.map MC.mem) := List.pairwise_map.2 hs
      have hlies : liesM false w2 (fun x => S x ∨ x = g) (d'.map MC.mem) g 0 := lies_of_mc (.inr rfl) (fun x hx => by
        have h := HD.out.2 x (hp.mem_iff.1 hx)
        exact ⟨h.1, V.lies_keep (fun h => by cases h) (fun y hy => br2.block y (HSr.out y hy)) (fun _ h => .inl h) _ h.2⟩) hrow
      have hSg : ∀ x, (S x ∨ x = g) → x < w2.heap.size := fun x hx => by
        rcases hx with h | h
        · have := HSr.out x h; omega
        · omega
      have HC3 : Hid (Calls Tryd.prog 35 #[.slice (some ⟨g, 0, none⟩) l.length cap] w2 (VaPost (mapV (d'.map MC.mem)) (mapE (d'.map MC.mem)) w2)) := by
        have := mapOf_big (d'.map MC.mem) false (fun x => S x ∨ x = g) (some ⟨g, 0, none⟩) cap g 0 w2 (HB.out w2 (K0.out w2 bz2).1) ⟨by omega, hcm, .inr rfl, fun h => by cases h⟩ hlies hSg (by rw [wtM_perm hpl]; exact hwt) (fun y hy => ⟨hkq y (hpl.mem_iff.1 hy), by have := hwv y (hpl.mem_iff.1 hy); omega⟩)
        rw [hl'] at this
        exact this
      have HR : Hid (∃ l', l'.Perm l ∧ Wkl l' ∧ l' = d'.map MC.mem) := ⟨_, hpl, hwk, rfl⟩
      generalize d'.map MC.mem = l' at *
      obtain ⟨me, hme⟩ : ∃ me, mapE l' = me := ⟨_, rfl⟩
      have HME : Hid (mapE l' = me) := hme
      rw [hme] at HC3
      clear hme
      clear hSg hc2 hp hs hrow hbl hlies br2 b2 b1 HD
      go_wp2_with fail
      refine HC3.out.mono ?_
      rintro e w3 ⟨csu, rfl, hlu, b3⟩
      obtain ⟨uk, ub, ui, us, ual, unl, ucl, uam, unm, ucm, rfl⟩ := V.ten (V.ap_lies _ hlu)
      have hz3 := b3.size
      have hz4 := bz2.size
      obtain ⟨B3, t3⟩ := K0.out w3 (bz2.trans (b3.mono hz4))
      have HU : Hid ((mapV l').ap w3 (w.heap.size + 1) w3.heap.size [.int .i64 uk, .bool ub, .int .i64 ui, .string us, .slice ual unl ucl, .slice uam unm ucm]) := V.ap_wide hlu (by omega) (Nat.le_refl _)
      have r0 : w3.cell? ⟨w.heap.size, 0, none⟩ = some (.int .i64 0) := by rw [cell_of_block t3]; rfl
      have r1 : w3.cell? ⟨w.heap.size, 1, none⟩ = some (.bool false) := by rw [cell_of_block t3]; rfl
      have r2 : w3.cell? ⟨w.heap.size, 2, none⟩ = some (.int .i64 0) := by rw [cell_of_block t3]; rfl
      have r3 : w3.cell? ⟨w.heap.size, 3, none⟩ = some (.string ⟨#[]⟩) := by rw [cell_of_block t3]; rfl
      have r4 : w3.cell? ⟨w.heap.size, 4, none⟩ = some (.slice none 0 0) := by rw [cell_of_block t3]; rfl
      have r5 : w3.cell? ⟨w.heap.size, 5, none⟩ = some (.slice none 0 0) := by rw [cell_of_block t3]; rfl
      have rf : ∀ i, w3.frozen? ⟨w.heap.size, i, none⟩ = false := frozen_of_block t3
      have HP : Hid (l'.Perm l ∧ Wkl l') := ⟨hpl, hwk⟩
      clear t3 hlu b3 HC3 HR hpl hwk hl'
      go_wp2_with fail
      (try simp only [Exit.inBlock, Exit.then])
      refine bodyPost_ret (v := .tuple #[.agg #[.int .i64 uk, .bool ub, .int .i64 ui, .string us, .slice ual unl ucl, .slice uam unm ucm], .int .i64 (me : Int)]) ?_ rfl ?_
      · rw [results_cell_tmp rfl]
        go_simp
      · exact .inr ⟨HY.out, l', HP.out.1, HP.out.2, by rw [HME.out]; exact ⟨[.int .i64 uk, .bool ub, .int .i64 ui, .string us, .slice ual unl ucl, .slice uam unm ucm], rfl, V.ap_wide (ap_set6 HU.out (show w.heap.size < w.heap.size + 1 by omega) _ _ _ _ _ _ _ _ _ _ _ _) (by omega) (by simp only [size_set1]; exact Nat.le_refl _), Below.set6 B3 (Nat.le_refl _) _ _ _ _ _ _ _ _ _ _ _ _⟩⟩
end Go.Proofs.YthgfomblodhoaaaDoor
/- Build: the answer is one function of the members, and lies apart. -/
namespace Go.Proofs.YthgfomblodhoaaaDoor
open Go.RowKit Go.Lib
def BuPost (l : List Mem) (w : World) (e : Ending) (w' : World) : Prop :=
  (¬ Fine l ∧ VaPost nullV 20 w e w') ∨ (Fine l ∧ VaPost (mapV (srtM l)) (mapE (srtM l)) w e w')
theorem bu_of_bld {l : List Mem} {w w' : World} {e : Ending} (h : BaPost l w e w') : BuPost l w e w' := by
  rcases h with ⟨h1, h2⟩ | ⟨h1, l', hp, hw, h2⟩
  · refine .inl ⟨fun hf => ?_, h2⟩
    have : bldOk l = true := by rw [bldOk, List.all_eq_true]; exact fun x hx => (hf.ok x hx).1
    rw [h1] at this
    cases this
  · by_cases hf : Fine l
    · have hs : srtM l = l' := srt_uniq ((srtM_perm l).trans hp.symm) (fine_srt (hf.perm (srtM_perm l).symm) (srtM_wk l)) hw
      rw [← hs] at h2
      exact .inr ⟨hf, h2⟩
    · have hr : riseB l' = false := by
        rw [Bool.eq_false_iff]
        intro hr
        refine hf (Fine.perm ⟨fun x hx => ⟨?_, rise_utf hr x hx⟩, srt_ne (srt_rise hr)⟩ hp)
        exact (List.all_eq_true.1 h1) x (hp.mem_iff.1 hx)
      rw [mapV_bad (mapE_bad hr), mapE_bad hr] at h2
      exact .inl ⟨hf, h2⟩
theorem bu_val {l : List Mem} {w w' : World} {e : Ending} (h : BuPost l w e w') : VaPost (bvV l).1 (bvV l).2 w e w' := by
  rcases h with ⟨h1, h2⟩ | ⟨h1, h2⟩
  · rw [bvV, if_neg h1]; exact h2
  · rw [bvV, if_pos h1]; exact h2
end Go.Proofs.YthgfomblodhoaaaDoor
