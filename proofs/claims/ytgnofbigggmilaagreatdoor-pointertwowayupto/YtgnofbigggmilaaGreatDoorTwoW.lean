import Derived.Test.YtgnofbigggmilaaGreatDoorAwkA
import Derived.Test.YtgnofbigggmilaaGreatDoorPrnA
import Derived.Test.YtgnofbigggmilaaGreatDoorStrA
/- PointerTwoWay: the law's own walk. -/
set_option linter.unusedSimpArgs false
set_option linter.unusedVariables false
namespace Go.Proofs.YtgnofbigggmilaaGreatDoor
open Go.RowKit Go.Lib
def okS (x : ByteArray) : Bool := validD x.data.toList
theorem all_dat (l : List ByteArray) : (dat l).all validD = l.all okS := by rw [dat, List.all_map]; rfl
theorem all_take {l : List ByteArray} {j : Nat} (h : j < l.length) : (l.take (j + 1)).all okS = ((l.take j).all okS && okS l[j]) := by
  rw [List.take_succ_eq_append_getElem h, List.all_append]
  simp
theorem mt_dat (s : List UInt8) : ((⟨s.toArray⟩ : ByteArray).data.toList) = s := by simp
set_option maxHeartbeats 8000000 in
set_option maxRecDepth 100000 in
theorem two_walk (p : ByteArray) (l : List ByteArray) (v : Value) (w : World) (hv : LiesS w v l) (hnil : (∃ ad c, v = .slice (some ad) l.length c) ∨ v = .slice none 0 0) (hp : p.size ≤ 1048576) (ht : totS l ≤ 1048576) (tg : Tg w) :
    Calls Tryz.prog 6 #[v, .string p] w (BPost true w) := by
  have hz2 := tg.z
  have hll := totS_len l
  have HT : Hid (∀ W, Below w.heap.size w W → Tg W ∧ LiesS W v l) := fun W hb => ⟨tg.below hb hz2, hv.below hb⟩
  have HM : Hid (∀ j (h : j < l.length), (l[j]).size ≤ 140737488351232) := fun j h => by have := totS_mem (List.getElem_mem h); omega
  have CAW := hmk (awake_any w tg)
  have HP1 : Hid (∀ (u : Value) W, LiesS W u l → Tg W → Calls Tryz.prog 29 #[u] W (PtPost (prA (dat l)) W)) := fun u W h1 h2 => pprint_any l u W h1 (by omega) h2.t
  have HQ : Hid (∀ W, Tg W → (dat l).all validD = true → Calls Tryz.prog 30 #[.string ⟨(prT (dat l)).toArray⟩] W (fun e w' => ∃ (v : Value) (a : List ByteArray), e = .returned (.tuple #[v, .int .i64 0]) ∧ dat a = dat l ∧ LiesS w' v a ∧ Below W.heap.size W w')) := fun W h1 h2 => by
    have hs : (⟨(prT (dat l)).toArray⟩ : ByteArray).size ≤ 2097152 := by rw [ba_size]; have := prT_len l; omega
    have := pparse_any ⟨(prT (dat l)).toArray⟩ W hs h1.t
    rw [mt_dat, par_pr _ h2] at this
    exact this
  have HRn : Hid (parF p.data.toList = none → ∀ W, Tg W → Calls Tryz.prog 30 #[.string p] W (fun e w' => ∃ (v : Value) (a : List ByteArray), e = .returned (.tuple #[v, .int .i64 40]) ∧ dat a = [] ∧ LiesS w' v a ∧ Below W.heap.size W w')) := fun h W h1 => by
    have := pparse_any p W (by omega) h1.t
    rw [h] at this
    exact this
  have HRs : Hid (∀ ts, parF p.data.toList = some ts → ∀ W, Tg W → Calls Tryz.prog 30 #[.string p] W (fun e w' => ∃ (v : Value) (a : List ByteArray), e = .returned (.tuple #[v, .int .i64 0]) ∧ dat a = ts ∧ LiesS w' v a ∧ Below W.heap.size W w')) := fun ts h W h1 => by
    have := pparse_any p W (by omega) h1.t
    rw [h] at this
    exact this
  have ep : (⟨p.data.toList.toArray⟩ : ByteArray) = p := by simp
  have HS : Hid (∀ (a : List ByteArray) (u : Value) W, parF p.data.toList = some (dat a) → LiesS W u a → Tg W → Calls Tryz.prog 29 #[u] W (fun e w' => e = .returned (.tuple #[.string p, .int .i64 0]) ∧ Below W.heap.size W w')) := fun a u W h0 h1 h2 => by
    obtain ⟨q1, q2⟩ := pr_par _ _ h0
    have ht' : totS a ≤ 1100000 := by have := tot_prT a; rw [q2, toList_size] at this; omega
    have := pprint_any a u W h1 ht' h2.t
    rw [prA, if_pos q1, q2] at this
    unfold PtPost at this
    simp only [Option.getD_some, Option.isSome_some, if_true, ep] at this
    exact this
  have HE : Hid ((⟨(prT (dat l)).toArray⟩ : ByteArray).toList == [] ↔ l = []) := by
    show _ ↔ _
    rw [beq_iff_eq, ByteArray.toList_eq, mt_dat, prT_nil]
    simp [dat]
  have HA0 : Hid ((dat l).all validD = l.all okS) := all_dat l
  obtain ⟨G, hG⟩ : ∃ G, G = l.all okS := ⟨_, rfl⟩
  have HG : Hid (G = l.all okS) := hG
  clear hG
  clear tg hv
  obtain ⟨al, cl, rfl⟩ : ∃ al cl, v = .slice al l.length cl := by
    rcases hnil with ⟨ad, c, e⟩ | e
    · exact ⟨_, _, e⟩
    · obtain ⟨a', c', e'⟩ := (HT.out w (Below.refl _ _)).2.1
      exact ⟨a', c', e'⟩
  go_enter Tryz.func6, Tryz.ntmps6
  go_wp2_with fail
  refine CAW.out.mono ?_
  rintro e w1 ⟨rfl, b1⟩
  clear CAW
  go_wp2_with fail
  go_loopw [5, 6] (fun e5 e6 wr => ∃ j : Nat, j ≤ l.length ∧ e6 = .int .i64 (j : Int) ∧ e5 = .bool ((l.take j).all okS) ∧ Hid (Below w.heap.size w wr)) (fun _ e6 _ => l.length - (RowKit.intOf e6).toNat)
  case atStart => exact ⟨0, by omega, rfl, rfl, b1⟩
  case round =>
    clear b1
    obtain ⟨j, hj, rfl, rfl, HB⟩ := hrel
    have hzr := HB.out.size
    by_cases hjl : j < l.length
    · have y1 : (j : Int) < l.length := by omega
      obtain ⟨tgr, hvr⟩ := HT.out wr HB.out
      obtain ⟨g, o, d, e1, hg, hg2, hc⟩ := hvr.2 (by omega)
      cases e1
      have c1 := hc j hjl
      have CV : Hid (Calls Tryz.prog 34 #[.string l[j]] wr fun e w' => e = .returned (.bool (okS l[j])) ∧ Below wr.heap.size wr w') := valid_any l[j] wr (HM.out j hjl) tgr.t.u
      have HN := hmk (all_take hjl)
      generalize okS l[j] = V at *
      generalize l[j] = x at *
      generalize (l.take j).all okS = A at *
      clear hc hvr hnil
      cases A with
      | false =>
        go_wp2_with fail
        go_roundw
        case rel => exact ⟨j + 1, by omega, by go_num, by rw [HN.out]; rfl, HB⟩
        case measure => simp [RowKit.intOf]; omega
      | true =>
        go_wp2_with fail
        refine CV.out.mono ?_
        rintro e w2 ⟨rfl, b2⟩
        have B2 := HB.out.trans (b2.mono (by omega))
        go_wp2_with fail
        go_roundw
        case rel => exact ⟨j + 1, by omega, by go_num, by rw [HN.out]; simp, B2⟩
        case measure => simp [RowKit.intOf]; omega
    · obtain rfl : j = l.length := by omega
      have y1 : ¬ (l.length : Int) < l.length := by omega
      rw [List.take_length, ← HG.out]
      have hv3 := (HT.out wr HB.out).2
      go_wp2_with (at_builtin; go_loud (refine wpl_given _ rfl (.tmp 31) (.tmp 32) rfl (.slice al l.length cl) l rfl rfl hv3 hnil (by omega) ?_))
      intro v' w4 h4 b4
      have hz4 := b4.size
      have B4 := HB.out.trans (b4.mono (by omega))
      have hg4 := h4.lies
      have CP := HP1.out v' w4 hg4 (HT.out w4 B4).1
      clear h4 hg4 hnil hv3
      cases G with
      | false =>
        rw [prA, if_neg (by rw [HA0.out, ← HG.out]; decide)] at CP
        have CP : Hid (Calls Tryz.prog 29 #[v'] w4 (fun e w' => e = .returned (.tuple #[.string ⟨#[]⟩, .int .i64 40]) ∧ Below w4.heap.size w4 w')) := CP
        go_wp2_with fail
        refine CP.out.mono ?_
        rintro e w5 ⟨rfl, b5⟩
        have B5 := B4.trans (b5.mono (by omega))
        clear CP
        cases hO : parF p.data.toList with
        | none =>
          go_wp2_with fail
          refine (HRn.out hO w5 (HT.out w5 B5).1).mono ?_
          rintro e u1 ⟨v5, l5, rfl, hd5, hl5, c1⟩
          have E1 := B5.trans (c1.mono (by have := B5.size; omega))
          obtain rfl : l5 = [] := by cases l5 with
            | nil => rfl
            | cons a t => simp [dat] at hd5
          obtain ⟨a5, c5, rfl⟩ := hl5.1
          clear hl5
          go_wp2_with fail
          go_ret
          exact ⟨rfl, E1⟩
        | some ts =>
          go_wp2_with fail
          refine (HRs.out ts hO w5 (HT.out w5 B5).1).mono ?_
          rintro e u1 ⟨v5, l5, rfl, hd5, hl5, c1⟩
          have E1 := B5.trans (c1.mono (by have := B5.size; omega))
          have hd6 : parF p.data.toList = some (dat l5) := by rw [hO, hd5]
          have CP := hmk (HS.out l5 v5 u1 hd6 hl5 (HT.out u1 E1).1)
          clear hl5 hd5 hd6
          have y9 : (p.toList == p.toList) = true := by simp
          go_wp2_with fail
          refine CP.out.mono ?_
          rintro e u2 ⟨rfl, c2⟩
          have E2 := E1.trans (c2.mono (by have := E1.size; omega))
          go_wp2_with fail
          go_ret
          exact ⟨rfl, E2⟩
      | true =>
        have hall : (dat l).all validD = true := by rw [HA0.out, ← HG.out]
        rw [prA, if_pos hall] at CP
        have CP : Hid (Calls Tryz.prog 29 #[v'] w4 (fun e w' => e = .returned (.tuple #[.string ⟨(prT (dat l)).toArray⟩, .int .i64 0]) ∧ Below w4.heap.size w4 w')) := CP
        have HQ' : Hid (∀ W, Tg W → Calls Tryz.prog 30 #[.string ⟨(prT (dat l)).toArray⟩] W (fun e w' => ∃ (v : Value) (a : List ByteArray), e = .returned (.tuple #[v, .int .i64 0]) ∧ dat a = dat l ∧ LiesS w' v a ∧ Below W.heap.size W w')) := fun W h => HQ.out W h hall
        by_cases hl0 : l = []
        · have e0 : (⟨(prT (dat l)).toArray⟩ : ByteArray) = ⟨#[]⟩ := by rw [hl0]; rfl
          rw [e0] at HQ' CP
          have y3 : (l.length : Int) = 0 := by rw [hl0]; rfl
          have HS2 : Hid (∀ u W, LiesS W u l → Tg W ∧ LiesS W (.slice al l.length cl) l → Calls Tryz.prog 32 #[u, .slice al l.length cl] W (BPost true W)) := fun u W h1 h2 => sames_any l u _ W h1 h2.2 (by omega)
          have HD : Hid (∀ l6, dat l6 = dat l → l6 = l) := fun l6 h => dat_inj h
          clear hl0 e0
          go_wp2_with fail
          refine CP.out.mono ?_
          rintro e w5 ⟨rfl, b5⟩
          have B5 := B4.trans (b5.mono (by omega))
          clear CP
          go_wp2_with fail
          refine (HQ'.out w5 (HT.out w5 B5).1).mono ?_
          rintro e w6 ⟨v6, l6, rfl, hd6, hl6, b6⟩
          have B6 := B5.trans (b6.mono (by have := B5.size; omega))
          obtain rfl := HD.out l6 hd6
          have CS := hmk (HS2.out v6 w6 hl6 (HT.out w6 B6))
          clear HQ' hl6
          go_wp2_with fail
          refine CS.out.mono ?_
          rintro e w7 ⟨rfl, b7⟩
          have B7 := B6.trans (b7.mono (by have := B6.size; omega))
          clear CS
          cases hO : parF p.data.toList with
          | none =>
            go_wp2_with fail
            refine (HRn.out hO w7 (HT.out w7 B7).1).mono ?_
            rintro e u1 ⟨v5, l5, rfl, hd5, hl5, c1⟩
            have E1 := B7.trans (c1.mono (by have := B7.size; omega))
            obtain rfl : l5 = [] := by cases l5 with
              | nil => rfl
              | cons a t => simp [dat] at hd5
            obtain ⟨a5, c5, rfl⟩ := hl5.1
            clear hl5
            go_wp2_with fail
            go_ret
            exact ⟨rfl, E1⟩
          | some ts =>
            go_wp2_with fail
            refine (HRs.out ts hO w7 (HT.out w7 B7).1).mono ?_
            rintro e u1 ⟨v5, l5, rfl, hd5, hl5, c1⟩
            have E1 := B7.trans (c1.mono (by have := B7.size; omega))
            have hd6 : parF p.data.toList = some (dat l5) := by rw [hO, hd5]
            have CP := hmk (HS.out l5 v5 u1 hd6 hl5 (HT.out u1 E1).1)
            clear hl5 hd5 hd6
            have y9 : (p.toList == p.toList) = true := by simp
            go_wp2_with fail
            refine CP.out.mono ?_
            rintro e u2 ⟨rfl, c2⟩
            have E2 := E1.trans (c2.mono (by have := E1.size; omega))
            go_wp2_with fail
            go_ret
            exact ⟨rfl, E2⟩
        · have hne : ((⟨(prT (dat l)).toArray⟩ : ByteArray).toList == []) = false := by
            rw [beq_eq_false_iff_ne]
            intro h
            exact hl0 (HE.out.1 (by rw [h]; rfl))
          have hlz : 0 < l.length := List.length_pos_iff.2 hl0
          have y3 : ¬ (l.length : Int) = 0 := by omega
          have HS2 : Hid (∀ u W, LiesS W u l → Tg W ∧ LiesS W (.slice al l.length cl) l → Calls Tryz.prog 32 #[u, .slice al l.length cl] W (BPost true W)) := fun u W h1 h2 => sames_any l u _ W h1 h2.2 (by omega)
          have HD : Hid (∀ l6, dat l6 = dat l → l6 = l) := fun l6 h => dat_inj h
          generalize (⟨(prT (dat l)).toArray⟩ : ByteArray) = q at *
          go_wp2_with fail
          refine CP.out.mono ?_
          rintro e w5 ⟨rfl, b5⟩
          have B5 := B4.trans (b5.mono (by omega))
          clear CP
          go_wp2_with fail
          refine (HQ'.out w5 (HT.out w5 B5).1).mono ?_
          rintro e w6 ⟨v6, l6, rfl, hd6, hl6, b6⟩
          have B6 := B5.trans (b6.mono (by have := B5.size; omega))
          obtain rfl := HD.out l6 hd6
          have CS := hmk (HS2.out v6 w6 hl6 (HT.out w6 B6))
          clear HQ' hl6
          go_wp2_with fail
          refine CS.out.mono ?_
          rintro e w7 ⟨rfl, b7⟩
          have B7 := B6.trans (b7.mono (by have := B6.size; omega))
          clear CS
          cases hO : parF p.data.toList with
          | none =>
            go_wp2_with fail
            refine (HRn.out hO w7 (HT.out w7 B7).1).mono ?_
            rintro e u1 ⟨v5, l5, rfl, hd5, hl5, c1⟩
            have E1 := B7.trans (c1.mono (by have := B7.size; omega))
            obtain rfl : l5 = [] := by cases l5 with
              | nil => rfl
              | cons a t => simp [dat] at hd5
            obtain ⟨a5, c5, rfl⟩ := hl5.1
            clear hl5
            go_wp2_with fail
            go_ret
            exact ⟨rfl, E1⟩
          | some ts =>
            go_wp2_with fail
            refine (HRs.out ts hO w7 (HT.out w7 B7).1).mono ?_
            rintro e u1 ⟨v5, l5, rfl, hd5, hl5, c1⟩
            have E1 := B7.trans (c1.mono (by have := B7.size; omega))
            have hd6 : parF p.data.toList = some (dat l5) := by rw [hO, hd5]
            have CP := hmk (HS.out l5 v5 u1 hd6 hl5 (HT.out u1 E1).1)
            clear hl5 hd5 hd6
            have y9 : (p.toList == p.toList) = true := by simp
            go_wp2_with fail
            refine CP.out.mono ?_
            rintro e u2 ⟨rfl, c2⟩
            have E2 := E1.trans (c2.mono (by have := E1.size; omega))
            go_wp2_with fail
            go_ret
            exact ⟨rfl, E2⟩
end Go.Proofs.YtgnofbigggmilaaGreatDoor
