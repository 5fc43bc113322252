import Derived.Test.YtihcggepeadklaaGreatDoorG23
/- path.writeKey. -/
set_option linter.unusedSimpArgs false
set_option linter.unusedVariables false
namespace Go.Proofs.YtihcggepeadklaaGreatDoor
open Go.RowKit Go.Lib
theorem keysB_get {l : List Mem} (h : keysB l = true) {j : Nat} (hj : j < l.length) : validD (l[j]).1.data.toList = true ∧ sizS (l[j]).2 = true := by
  simp only [keysB, Bool.and_eq_true, decide_eq_true_eq, List.all_eq_true, List.mem_range] at h
  have h2 := h.2 j hj
  rw [okK, okAt, keyAt_eq hj, valAt_eq hj] at h2
  simp only [Bool.and_eq_true] at h2
  exact ⟨h2.1.1, h2.2⟩
theorem wtM_take_le (l : List Mem) (j : Nat) : wtM (l.take j) ≤ wtM l := by
  have := wtM_app (l.take j) (l.drop j)
  rw [List.take_append_drop] at this
  omega
set_option maxHeartbeats 4000000 in
set_option maxRecDepth 100000 in
theorem wkey_any (m : List Mem) (am : Option Addr) (cm bm om : Nat) (S : Nat → Prop) (B b : Nat) (l0 : List UInt8) (w : World) (t : Td w) (ham : Headed am m.length cm bm om) (hm : liesM false w S m bm om) (hS : ∀ x, S x → x < B) (hB3 : 9 < B)
    (hbl : IsBuilderF 54 5 B b (byteCells l0) w) (hk : keysB m = true) (hwt : wtM m ≤ 2147483647) (hl0 : l0.length ≤ 100000000000) :
    Calls Tryz.prog 39 #[.pointer (some ⟨b, 0, none⟩), .slice am m.length cm] w fun e w' => e = .returned (.tuple #[]) ∧ IsBuilderF 54 5 B b (byteCells (l0 ++ (kyT 91 m ++ [93]))) w' ∧ Below B w w' := by
  have HM := hmk hm
  have HK := hmk hk
  have HI := hmk (in64_liesM hm)
  have HT : Hid (∀ W, Below B w W → Td W) := fun W hb => t.below hb hB3 hb.size
  have hlen := wtM_len m
  clear hm hk t
  go_enter Tryz.func39, Tryz.ntmps39
  go_wp2_with fail
  go_loopw [4, 9] (fun a e wr => ∃ j : Nat, j ≤ m.length ∧ a = .int .u8 ((ahd 91 j).toNat : Int) ∧ e = .int .i64 (j : Int) ∧ Below B w wr ∧ IsBuilderF 54 5 B b (byteCells (l0 ++ kyT 91 (m.take j))) wr) (fun _ e _ => m.length - (RowKit.intOf e).toNat)
  case atStart => exact ⟨0, by omega, rfl, rfl, Below.refl _ _, by rw [List.take_zero, kyT, List.append_nil]; exact hbl⟩
  case round =>
    obtain ⟨j, hj, rfl, rfl, bj, gj⟩ := hrel
    clear hbl
    have hkl : (kyT 91 (m.take j)).length ≤ 40 * wtM (m.take j) := kyT_len _ _ (fun x hx => HI.out x (List.mem_of_mem_take hx))
    have hkt := wtM_take_le m j
    have hL : (l0 ++ kyT 91 (m.take j)).length ≤ 200000000000 := by rw [List.length_append]; omega
    by_cases hjl : j < m.length
    · have y1 : (j : Int) < m.length := by omega
      obtain ⟨hSb, hks, csj, hrow, hlj⟩ := liesM_get HM.out j hjl
      obtain rfl : am = some ⟨bm, om, none⟩ := ham.at_.resolve_left (by omega)
      have hrow' := hrow.keep (bj.block _ (hS _ hSb))
      obtain ⟨hkv, hsz⟩ := keysB_get HK.out hjl
      have hwj := wtM_mem (List.getElem_mem hjl)
      have HS : Hid (l0 ++ kyT 91 (m.take (j + 1)) = (((l0 ++ kyT 91 (m.take j)) ++ [ahd 91 j] ++ nmT (m[j]).1.data.toList) ++ [61]) ++ svT (m[j]).2) := by
        show _ = _
        rw [kyT_take 91 hjl, memT]; simp
      have HA : Hid (ahd 91 (j + 1) = 44) := by show _ = _; rw [ahd, if_neg (by omega)]
      generalize ahd 91 j = c at *
      generalize l0 ++ kyT 91 (m.take j) = L at *
      generalize (m[j]).1 = key at *
      generalize (m[j]).2 = xv at *
      obtain ⟨ek, eb, ei, es, el, em⟩ := xv
      rw [V.lies] at hlj
      obtain ⟨eal, ecl, ebl, eol, eam, ecm, ebm, eom, rfl, hek, hei, hes, _⟩ := hlj
      obtain ⟨q, q0, q1, q2, q3, q4, q5⟩ := row7 hrow'
      obtain ⟨hk3, hvs, rfl, rfl⟩ := sizS_good hsz
      have hes2 : es.size ≤ 2147483648 ∧ key.size ≤ 2147483648 := by simp only [V.wt] at hwj; omega
      have hnl := nmT_len key
      have hsl := scT_len (k := ek) (b := eb) (i := ei) (s := es) hei
      have HSV : Hid (svT (.mk ek eb ei es [] []) = scT ek eb ei es) := hmk rfl
      rw [HSV.out] at HS
      have W0 := Wr.box gj bj #[.string key, .int .i64 ek, .bool eb, .int .i64 ei, .string es, .slice eal 0 ecl, .slice eam 0 ecm] 50 (by decide)
      have HN : Hid (∀ W, Below B w W → Calls Tryz.prog 38 #[.string key] W (SPost (nmT key.data.toList) W)) := fun W hb => name_any key W hes2.2 (HT.out W hb).u (HT.out W hb).l (HT.out W hb).z hkv
      have HC : Hid (∀ W, Below B w W → Calls Tryz.prog 40 #[.agg #[.int .i64 ek, .bool eb, .int .i64 ei, .string es, .slice eal 0 ecl, .slice eam 0 ecm]] W (SPost (scT ek eb ei es) W)) := fun W hb => sctext_any ek eb ei es eal 0 ecl eam 0 ecm W (HT.out W hb) hk3 hei hes2.1 hvs
      clear hrow hrow' hsz hwj hkv hvs HSV hek hei hes hk3
      generalize nmT key.data.toList = nt at *
      generalize scT ek eb ei es = st at *
      go_wp2_with fail
      refine (W0.byte c (by omega)).mono ?_
      rintro e w1 ⟨rfl, W1⟩
      have n0 : w1.cell? ⟨wr.heap.size, 0, none⟩ = some (.string key) := by rw [cell_of_block W1.ob]; rfl
      go_wp2_with fail
      refine (HN.out w1 W1.be).mono ?_
      rintro e w2 ⟨rfl, b2⟩
      have W2 := W1.call b2
      clear n0
      go_wp2_with fail
      refine (W2.str nt (by simp only [List.length_append, List.length_cons, List.length_nil]; omega)).mono ?_
      rintro e w3 ⟨⟨n3, rfl⟩, W3⟩
      go_wp2_with fail
      refine (W3.byte 61 (by simp only [List.length_append, List.length_cons, List.length_nil]; omega)).mono ?_
      rintro e w4 ⟨rfl, W4⟩
      have m1 : w4.cell? ⟨wr.heap.size, 1, none⟩ = some (.int .i64 ek) := by rw [cell_of_block W4.ob]; rfl
      have m2 : w4.cell? ⟨wr.heap.size, 2, none⟩ = some (.bool eb) := by rw [cell_of_block W4.ob]; rfl
      have m3 : w4.cell? ⟨wr.heap.size, 3, none⟩ = some (.int .i64 ei) := by rw [cell_of_block W4.ob]; rfl
      have m4 : w4.cell? ⟨wr.heap.size, 4, none⟩ = some (.string es) := by rw [cell_of_block W4.ob]; rfl
      have m5 : w4.cell? ⟨wr.heap.size, 5, none⟩ = some (.slice eal 0 ecl) := by rw [cell_of_block W4.ob]; rfl
      have m6 : w4.cell? ⟨wr.heap.size, 6, none⟩ = some (.slice eam 0 ecm) := by rw [cell_of_block W4.ob]; rfl
      go_wp2_with fail
      refine (HC.out w4 W4.be).mono ?_
      rintro e w5 ⟨rfl, b5⟩
      have W5 := W4.call b5
      clear m1 m2 m3 m4 m5 m6
      go_wp2_with fail
      refine (W5.str st (by simp only [List.length_append, List.length_cons, List.length_nil]; omega)).mono ?_
      rintro e w6 ⟨⟨n6, rfl⟩, W6⟩
      go_wp2_with fail
      go_roundw
      case rel => exact ⟨j + 1, by omega, by rw [HA.out]; rfl, by simp, W6.be, by rw [HS.out]; exact W6.bl⟩
      case measure => simp [RowKit.intOf]; omega
    · have y1 : ¬ (j : Int) < m.length := by omega
      obtain rfl : j = m.length := by omega
      rw [List.take_length] at gj hL
      have hl := bld_lt gj
      have HS : Hid (l0 ++ (kyT 91 m ++ [93]) = (l0 ++ kyT 91 m) ++ [93]) := by show _ = _; simp
      generalize l0 ++ kyT 91 m = L at *
      go_wp2_with fail
      refine (Tryz.WriteByte_k B b (byteCells L) 93 wr gj (by rw [byteCells_length]; omega) (by omega)).mono ?_
      rintro e w1 ⟨rfl, h1, b1, _⟩
      go_wp2
      go_end0
      refine ⟨rfl, .inr ?_, bj.trans b1⟩
      rw [HS.out, ← byteCells_snoc]
      exact h1
end Go.Proofs.YtihcggepeadklaaGreatDoor
