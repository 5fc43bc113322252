/- joined: JpsF ShlJ -/
import Derived.Test.YtpmhdcmmlkjjmaaGreatDoorG39
import Derived.Shelf.Strconv.AppendIntPublic10
/- json.appendMap. -/
set_option linter.unusedSimpArgs false
set_option linter.unusedVariables false
namespace Go.Proofs.YtpmhdcmmlkjjmaaGreatDoor
open Go.RowKit Go.Lib
set_option maxHeartbeats 4000000 in
set_option maxRecDepth 100000 in
theorem appmap_any (l : List Mem) (ih : ∀ x ∈ l, AppV x.2) (R : Bool) (S : Nat → Prop) (al : Option Addr) (cl bl ol : Nat) (B : Nat) (bv : Value) (bs : List UInt8) (w : World) (hal : Headed al l.length cl bl ol) (hl : liesM R w S l bl ol) (hS : ∀ b, S b → b < B) (td : Tdl w) (hB3 : 9 < B) (hBw : B ≤ w.heap.size) (ho : OwnB B bv bs w) (hp : prM l) (hwt : wtM l ≤ 1114112) (hlen : bs.length + 40 * wtM l + 5 ≤ 1000000000) :
    Calls Tryz.prog 42 #[bv, .slice al l.length cl] w (ApPost B (bs ++ (123 :: (joinB (txtM l) ++ [125]))) w) := by
  have hll := wtM_len l
  have HL : Hid (∀ W, Below B w W → liesM R W S l bl ol ∧ Tdl W) := fun W hb => ⟨liesM_keep (fun h => h) (fun x hx => hb.block x (hS x hx)) (fun _ h => h) _ hl, td.below hb hB3 hb.size⟩
  have HE : Hid (bs ++ (123 :: (joinB (txtM l) ++ [125])) = (bs ++ [(123 : UInt8)] ++ jM l l.length) ++ [125]) := by show _ = _; rw [jM, List.take_length]; simp
  have HN : Hid (∀ j, (jM l j).length ≤ 40 * wtM l) := fun j => Nat.le_trans (jM_len j hp) (Nat.mul_le_mul_left _ (wtM_take l j))
  have HI : Hid (∀ j (h : j < l.length), AppV (l[j]).2 ∧ prV (l[j]).2 ∧ validD (l[j]).1.data.toList = true ∧ (l[j]).1.size ≤ 1048576 ∧ (l[j]).2.wt ≤ wtM l ∧ (Q.qt (l[j]).1.data.toList).length ≤ 2 + 6 * (l[j]).1.size ∧ (jM l j).length + 40 * ((l[j]).1.size + (l[j]).2.wt) ≤ 40 * wtM l) := fun j h => by
    have h1 := jM_len j hp
    have h2 := wtM_app (l.take j) (l.drop j)
    rw [List.take_append_drop, List.drop_eq_getElem_cons h] at h2
    have h3 : wtM (l[j] :: l.drop (j + 1)) = (l[j]).1.size + (l[j]).2.wt + wtM (l.drop (j + 1)) := by
      rcases e : l[j] with ⟨k, x⟩
      rw [wtM]
    exact ⟨ih _ (List.getElem_mem h), (prM_mem hp _ (List.getElem_mem h)).2, (prM_mem hp _ (List.getElem_mem h)).1.1, (prM_mem hp _ (List.getElem_mem h)).1.2, by omega, qt_len _, by omega⟩
  have HJ1 : Hid (∀ h : 0 < l.length, jM l 1 = txtE l[0]) := fun h => jM_one h
  have HJ2 : Hid (∀ j (h : j < l.length), j ≠ 0 → jM l (j + 1) = (jM l j ++ [44]) ++ txtE l[j]) := fun j h h0 => jM_more h h0
  clear hl td
  go_enter Tryz.func42, Tryz.ntmps42
  go_wp2_with (at_builtin; go_loud (refine wpl_appQ _ rfl (.tmp 7) (.tmp 8) rfl B _ _ rfl (ho.alloc _) w.heap.size 123 rfl _ (heap_alloc_new w _) (by omega) (by rw [alloc_size]; omega) ?_))
  intro v1 w1 o1 g1 _
  have B1 : Below B w w1 := ((Below.refl B w).alloc hBw _).trans ((ho.alloc _).belowOf g1 (by rw [alloc_size]; omega))
  clear g1
  go_wp2_with fail
  go_loopw [0, 12] (fun e0 e12 wr => ∃ (j : Nat) (bv' : Value), j ≤ l.length ∧ bv' = e0 ∧ e12 = .int .i64 (j : Int) ∧ OwnB B bv' (bs ++ [(123 : UInt8)] ++ jM l j) wr ∧ Hid (Below B w wr)) (fun _ e _ => l.length - (RowKit.intOf e).toNat)
  case atStart => exact ⟨0, _, by omega, rfl, rfl, by rw [jM_zero, List.append_nil]; exact o1, B1⟩
  case round =>
    clear o1 B1
    obtain ⟨j, bv', hj, rfl, rfl, oj, Bj⟩ := hrel
    have hnj := HN.out j
    obtain ⟨P, hP⟩ : ∃ P, bs ++ [(123 : UInt8)] ++ jM l j = P := ⟨_, rfl⟩
    have HPP : Hid (bs ++ [(123 : UInt8)] ++ jM l j = P) := hP
    have hPl : P.length = bs.length + 1 + (jM l j).length := by rw [← hP]; simp only [List.length_append, List.length_cons, List.length_nil]
    rw [hP] at oj
    clear hP
    have hzr := Bj.out.size
    by_cases hjl : j < l.length
    · have y1 : (j : Int) < l.length := by omega
      obtain rfl : al = some ⟨bl, ol, none⟩ := hal.at_.resolve_left (by omega)
      obtain ⟨hSb, hkm, csj, hrow, hlj⟩ := liesM_get (HL.out wr Bj.out).1 j hjl
      obtain ⟨hA, hpj, hvk, hks, hwj, hql, hlj2⟩ := HI.out j hjl
      have HT1 : Hid (∀ h : j = 0, bs ++ [(123 : UInt8)] ++ jM l (j + 1) = (P ++ Q.qt (l[j]).1.data.toList ++ [58]) ++ txtV (l[j]).2) := fun h => by
        rw [← HPP.out]; subst h; rw [HJ1.out hjl, jM_zero, txtE]; simp
      have HT2 : Hid (∀ h : j ≠ 0, bs ++ [(123 : UInt8)] ++ jM l (j + 1) = ((P ++ [44]) ++ Q.qt (l[j]).1.data.toList ++ [58]) ++ txtV (l[j]).2) := fun h => by
        rw [← HPP.out, HJ2.out j hjl h, txtE]; simp
      obtain ⟨ek, eb, ei, es, eal, enl, ecl, eam, enm, ecm, rfl⟩ := V.ten hlj
      obtain ⟨kj, hkj⟩ : ∃ kj, (l[j]).1 = kj := ⟨_, rfl⟩
      obtain ⟨xj, hxj⟩ : ∃ xj, (l[j]).2 = xj := ⟨_, rfl⟩
      rw [hkj, hxj] at HT1 HT2
      rw [hkj] at hrow hkm hvk hks hql hlj2
      rw [hxj] at hlj hA hpj hwj hlj2
      clear hkj hxj
      obtain ⟨q, q0, q1, q2, q3, q4, q5⟩ := row7 hrow
      have nb := heap_alloc_new wr (.cells #[.string kj, .int .i64 ek, .bool eb, .int .i64 ei, .string es, .slice eal enl ecl, .slice eam enm ecm] 57)
      have hza := alloc_size wr (.cells #[.string kj, .int .i64 ek, .bool eb, .int .i64 ei, .string es, .slice eal enl ecl, .slice eam enm ecm] 57)
      have hlW : ∀ W, Below B wr W → xj.lies R W S [.int .i64 ek, .bool eb, .int .i64 ei, .string es, .slice eal enl ecl, .slice eam enm ecm] := fun W hb => V.lies_keep (fun h => h) (fun x hx => hb.block x (hS x hx)) (fun _ h => h) _ hlj
      have HLW : Hid (∀ W, Below B wr W → xj.lies R W S [.int .i64 ek, .bool eb, .int .i64 ei, .string es, .slice eal enl ecl, .slice eam enm ecm]) := hlW
      have HA : Hid (AppV xj) := hA
      have bA : Below B wr (wr.alloc (.cells #[.string kj, .int .i64 ek, .bool eb, .int .i64 ei, .string es, .slice eal enl ecl, .slice eam enm ecm] 57)) := (Below.refl B wr).alloc (by omega) _
      have oA := oj.alloc (.cells #[.string kj, .int .i64 ek, .bool eb, .int .i64 ei, .string es, .slice eal enl ecl, .slice eam enm ecm] 57)
      have hlt := fun g hg => (oj.lt (g := g) hg).2
      clear hlj hlW hA hrow
      by_cases hj0 : j = 0
      · have HT := HT1.out hj0
        have y2 : ¬ (j : Int) > 0 := by omega
        have y3 : ¬ (0 : Int) < j := by omega
        have y4 : ¬ 0 < j := by omega
        have y5 : decide (0 < j) = false := by simp [hj0]
        clear hj0 HT1 HT2
        have hne : ∀ g, bv'.ownBlock = some g → g ≠ wr.heap.size := fun g hg => by have := hlt g hg; omega
        have k0 : (wr.alloc (.cells #[.string kj, .int .i64 ek, .bool eb, .int .i64 ei, .string es, .slice eal enl ecl, .slice eam enm ecm] 57)).cell? ⟨wr.heap.size, 0, none⟩ = some (.string kj) := by rw [cell_of_block nb]; rfl
        go_wp2_with fail
        refine (appstr_q kj B bv' (P) (wr.alloc (.cells #[.string kj, .int .i64 ek, .bool eb, .int .i64 ei, .string es, .slice eal enl ecl, .slice eam enm ecm] 57)) (HL.out _ (Bj.out.trans (bA))).2 (by have := (bA).size; omega) oA hks hvk (by (try simp only [List.length_append, List.length_cons, List.length_nil]); omega)).mono ?_
        rintro e w3 ⟨v3, rfl, o3, g3, l3⟩
        have nb3 := (g3.block wr.heap.size (by omega) (fun e => hne _ e.symm rfl)).trans nb
        have B3 : Below B wr w3 := (bA).trans ((oA).belowOf g3 (by have := (bA).size; omega))
        have hz5 := g3.size
        have hne3 : ∀ g, v3.ownBlock = some g → g ≠ wr.heap.size := fun g hg => by
          rcases l3 g hg with h | h
          · exact hne g h
          · omega
        have hB3' := B3.size
        clear g3 l3 k0 q q0 q1 q2 q3 q4 q5
        go_wp2_with (at_builtin; go_loud (refine wpl_appQ _ rfl (.tmp 25) (.tmp 26) rfl B _ _ rfl (o3.alloc _) w3.heap.size 58 rfl _ (heap_alloc_new w3 _) (by (try simp only [List.length_append, List.length_cons, List.length_nil]); omega) (by rw [alloc_size]; omega) ?_))
        intro v4 w4 o4 g4 l4
        have nb4 := (g4.block wr.heap.size (by rw [alloc_size]; omega) (fun e => hne3 _ e.symm rfl)).trans ((Below.heap_alloc _ _ _ (by omega)).trans nb3)
        have B4 : Below B wr w4 := (B3.alloc (by omega) _).trans ((o3.alloc _).belowOf g4 (by rw [alloc_size]; omega))
        have hz4 := B4.size
        have o4' : OwnB B v4 (P ++ Q.qt kj.data.toList ++ [58]) w4 := by simp only [List.append_assoc] at o4 ⊢; exact o4
        have n0 : w4.cell? ⟨wr.heap.size, 1, none⟩ = some (.int .i64 ek) := by rw [cell_of_block nb4]; rfl
        have n1 : w4.cell? ⟨wr.heap.size, 2, none⟩ = some (.bool eb) := by rw [cell_of_block nb4]; rfl
        have n2 : w4.cell? ⟨wr.heap.size, 3, none⟩ = some (.int .i64 ei) := by rw [cell_of_block nb4]; rfl
        have n3 : w4.cell? ⟨wr.heap.size, 4, none⟩ = some (.string es) := by rw [cell_of_block nb4]; rfl
        have n4 : w4.cell? ⟨wr.heap.size, 5, none⟩ = some (.slice eal enl ecl) := by rw [cell_of_block nb4]; rfl
        have n5 : w4.cell? ⟨wr.heap.size, 6, none⟩ = some (.slice eam enm ecm) := by rw [cell_of_block nb4]; rfl
        clear g4 l4 nb4 nb3
        go_wp2_with fail
        refine (HA.out R S _ B v4 (P ++ Q.qt kj.data.toList ++ [58]) _ (HLW.out _ B4) hS (HL.out _ (Bj.out.trans B4)).2 hB3 (by omega) o4' hpj (by omega) (by (try simp only [List.length_append, List.length_cons, List.length_nil]); omega)).mono ?_
        rintro e w5 ⟨v5, rfl, o5, b5⟩
        have B5 : Below B w w5 := (Bj.out.trans B4).trans b5
        clear n0 n1 n2 n3 n4 n5
        go_wp2_with fail
        go_roundw
        case rel => exact ⟨j + 1, v5, by omega, rfl, by go_num, by rw [HT]; exact o5, B5⟩
        case measure => simp [RowKit.intOf]; omega
      · have HT := HT2.out hj0
        have y2 : (j : Int) > 0 := by omega
        have y3 : (0 : Int) < j := by omega
        have y4 : 0 < j := by omega
        have y5 : decide (0 < j) = true := by simp; omega
        clear HT1 HT2
        go_wp2_with (at_builtin; go_loud (refine wpl_appQ _ rfl (.tmp 19) (.tmp 20) rfl B _ _ rfl (oA.alloc _) (wr.heap.size + 1) 44 rfl _ (alloc2_new wr _ _) (by omega) (by rw [alloc_size, alloc_size]; omega) ?_))
        intro v2 w2 o2 g2 l2
        have nb2 := (g2.block wr.heap.size (by rw [alloc_size, alloc_size]; omega) (fun e => by have := hlt _ e.symm; omega)).trans ((Below.heap_alloc _ _ _ (by omega)).trans nb)
        have B2 : Below B wr w2 := (bA.alloc (by rw [alloc_size]; omega) _).trans ((oA.alloc _).belowOf g2 (by rw [alloc_size, alloc_size]; omega))
        have hz2 := B2.size
        have hz3 : wr.heap.size + 2 ≤ w2.heap.size := by have := g2.size; (try rw [alloc_size, alloc_size] at this); omega
        have hne : ∀ g, v2.ownBlock = some g → g ≠ wr.heap.size := fun g hg => by
          rcases l2 g hg with h | h
          · have := hlt g h; omega
          · (try rw [alloc_size, alloc_size] at h); omega
        clear g2 l2 nb
        have k0 : (w2).cell? ⟨wr.heap.size, 0, none⟩ = some (.string kj) := by rw [cell_of_block nb2]; rfl
        go_wp2_with fail
        refine (appstr_q kj B v2 (P ++ [44]) (w2) (HL.out _ (Bj.out.trans (B2))).2 (by have := (B2).size; omega) o2 hks hvk (by (try simp only [List.length_append, List.length_cons, List.length_nil]); omega)).mono ?_
        rintro e w3 ⟨v3, rfl, o3, g3, l3⟩
        have nb3 := (g3.block wr.heap.size (by omega) (fun e => hne _ e.symm rfl)).trans nb2
        have B3 : Below B wr w3 := (B2).trans ((o2).belowOf g3 (by have := (B2).size; omega))
        have hz5 := g3.size
        have hne3 : ∀ g, v3.ownBlock = some g → g ≠ wr.heap.size := fun g hg => by
          rcases l3 g hg with h | h
          · exact hne g h
          · omega
        have hB3' := B3.size
        clear g3 l3 k0 q q0 q1 q2 q3 q4 q5
        go_wp2_with (at_builtin; go_loud (refine wpl_appQ _ rfl (.tmp 25) (.tmp 26) rfl B _ _ rfl (o3.alloc _) w3.heap.size 58 rfl _ (heap_alloc_new w3 _) (by (try simp only [List.length_append, List.length_cons, List.length_nil]); omega) (by rw [alloc_size]; omega) ?_))
        intro v4 w4 o4 g4 l4
        have nb4 := (g4.block wr.heap.size (by rw [alloc_size]; omega) (fun e => hne3 _ e.symm rfl)).trans ((Below.heap_alloc _ _ _ (by omega)).trans nb3)
        have B4 : Below B wr w4 := (B3.alloc (by omega) _).trans ((o3.alloc _).belowOf g4 (by rw [alloc_size]; omega))
        have hz4 := B4.size
        have o4' : OwnB B v4 (P ++ [44] ++ Q.qt kj.data.toList ++ [58]) w4 := by simp only [List.append_assoc] at o4 ⊢; exact o4
        have n0 : w4.cell? ⟨wr.heap.size, 1, none⟩ = some (.int .i64 ek) := by rw [cell_of_block nb4]; rfl
        have n1 : w4.cell? ⟨wr.heap.size, 2, none⟩ = some (.bool eb) := by rw [cell_of_block nb4]; rfl
        have n2 : w4.cell? ⟨wr.heap.size, 3, none⟩ = some (.int .i64 ei) := by rw [cell_of_block nb4]; rfl
        have n3 : w4.cell? ⟨wr.heap.size, 4, none⟩ = some (.string es) := by rw [cell_of_block nb4]; rfl
        have n4 : w4.cell? ⟨wr.heap.size, 5, none⟩ = some (.slice eal enl ecl) := by rw [cell_of_block nb4]; rfl
        have n5 : w4.cell? ⟨wr.heap.size, 6, none⟩ = some (.slice eam enm ecm) := by rw [cell_of_block nb4]; rfl
        clear g4 l4 nb4 nb3
        go_wp2_with fail
        refine (HA.out R S _ B v4 (P ++ [44] ++ Q.qt kj.data.toList ++ [58]) _ (HLW.out _ B4) hS (HL.out _ (Bj.out.trans B4)).2 hB3 (by omega) o4' hpj (by omega) (by (try simp only [List.length_append, List.length_cons, List.length_nil]); omega)).mono ?_
        rintro e w5 ⟨v5, rfl, o5, b5⟩
        have B5 : Below B w w5 := (Bj.out.trans B4).trans b5
        clear n0 n1 n2 n3 n4 n5
        go_wp2_with fail
        go_roundw
        case rel => exact ⟨j + 1, v5, by omega, rfl, by go_num, by rw [HT]; exact o5, B5⟩
        case measure => simp [RowKit.intOf]; omega
    · obtain rfl : j = l.length := by omega
      have y1 : ¬ (l.length : Int) < l.length := by omega
      go_wp2_with (at_builtin; go_loud (refine wpl_appQ _ rfl (.tmp 33) (.tmp 34) rfl B _ _ rfl (oj.alloc _) wr.heap.size 125 rfl _ (heap_alloc_new wr _) (by omega) (by rw [alloc_size]; omega) ?_))
      intro v2 w2 o2 g2 l2
      have B2 : Below B w w2 := (Bj.out.trans ((Below.refl B wr).alloc (by omega) _)).trans ((oj.alloc _).belowOf g2 (by rw [alloc_size]; omega))
      go_wp2_with fail
      go_ret
      rw [HE.out, HPP.out]
      exact ⟨_, rfl, o2, B2⟩
end Go.Proofs.YtpmhdcmmlkjjmaaGreatDoor
/- strconv.AppendInt by its contract, laid at this program. -/
namespace Go.Proofs
open Go.Shelf Go.RowKit
def Tryz.lays176_ren : Go.Shelf.Ren := ⟨fun | 129 => 124 | 176 => 39 | 249 => 57 | 283 => 99 | 284 => 100 | 285 => 101 | 286 => 102 | 288 => 76 | 317 => 123 | 318 => 125 | 319 => 126 | 320 => 127 | 337 => 141 | 338 => 142 | n => n, fun | 0 => 0 | 2 => 2 | 3 => 3 | 4 => 4 | 5 => 5 | 9 => 9 | 20 => 20 | 37 => 28 | 46 => 95 | 51 => 127 | 53 => 105 | 171 => 135 | 173 => 138 | 212 => 155 | 213 => 156 | 232 => 183 | 233 => 184 | n => n, fun | 17 => 3 | 18 => 5 | 19 => 6 | n => n⟩
set_option maxRecDepth 100000 in
theorem Tryz.lays176 : Go.Proofs.LaysM.n176 Tryz.prog Tryz.lays176_ren := {
  mixed := by kernel_rfl
  f129 := Tryz.func124.trans (congrArg some (by kernel_rfl))
  f176 := Tryz.func39.trans (congrArg some (by kernel_rfl))
  f249 := Tryz.func57.trans (congrArg some (by kernel_rfl))
  f283 := Tryz.func99.trans (congrArg some (by kernel_rfl))
  f284 := Tryz.func100.trans (congrArg some (by kernel_rfl))
  f285 := Tryz.func101.trans (congrArg some (by kernel_rfl))
  f286 := Tryz.func102.trans (congrArg some (by kernel_rfl))
  f288 := Tryz.func76.trans (congrArg some (by kernel_rfl))
  f317 := Tryz.func123.trans (congrArg some (by kernel_rfl))
  f318 := Tryz.func125.trans (congrArg some (by kernel_rfl))
  f319 := Tryz.func126.trans (congrArg some (by kernel_rfl))
  f320 := Tryz.func127.trans (congrArg some (by kernel_rfl))
  f337 := Tryz.func141.trans (congrArg some (by kernel_rfl))
  f338 := Tryz.func142.trans (congrArg some (by kernel_rfl))
  t0 := Tryz.underlying0
  a0 := Tryz.isAgg0
  z0 := Tryz.sizeOf0
  v0 := Tryz.zeroValue0
  t2 := Tryz.underlying2
  a2 := Tryz.isAgg2
  z2 := Tryz.sizeOf2
  v2 := Tryz.zeroValue2
  t3 := Tryz.underlying3
  a3 := Tryz.isAgg3
  z3 := Tryz.sizeOf3
  v3 := Tryz.zeroValue3
  t4 := Tryz.underlying4
  a4 := Tryz.isAgg4
  z4 := Tryz.sizeOf4
  v4 := Tryz.zeroValue4
  t5 := Tryz.underlying5
  a5 := Tryz.isAgg5
  z5 := Tryz.sizeOf5
  v5 := Tryz.zeroValue5
  t9 := Tryz.underlying9
  a9 := Tryz.isAgg9
  z9 := Tryz.sizeOf9
  v9 := Tryz.zeroValue9
  t20 := Tryz.underlying20
  a20 := Tryz.isAgg20
  z20 := Tryz.sizeOf20
  v20 := Tryz.zeroValue20
  t37 := Tryz.underlying28
  a37 := Tryz.isAgg28
  z37 := Tryz.sizeOf28
  v37 := Tryz.zeroValue28
  t46 := Tryz.underlying95
  a46 := Tryz.isAgg95
  z46 := Tryz.sizeOf95
  v46 := Tryz.zeroValue95
  t51 := Tryz.underlying127
  a51 := Tryz.isAgg127
  z51 := Tryz.sizeOf127
  v51 := Tryz.zeroValue127
  t53 := Tryz.underlying105
  a53 := Tryz.isAgg105
  z53 := Tryz.sizeOf105
  v53 := Tryz.zeroValue105
  t171 := Tryz.underlying135
  a171 := Tryz.isAgg135
  z171 := Tryz.sizeOf135
  v171 := Tryz.zeroValue135
  t173 := Tryz.underlying138
  a173 := Tryz.isAgg138
  z173 := Tryz.sizeOf138
  v173 := Tryz.zeroValue138
  t212 := Tryz.underlying155
  a212 := Tryz.isAgg155
  z212 := Tryz.sizeOf155
  v212 := Tryz.zeroValue155
  t213 := Tryz.underlying156
  a213 := Tryz.isAgg156
  z213 := Tryz.sizeOf156
  t232 := Tryz.underlying183
  a232 := Tryz.isAgg183
  z232 := Tryz.sizeOf183
  v232 := Tryz.zeroValue183
  t233 := Tryz.underlying184
  a233 := Tryz.isAgg184
  z233 := Tryz.sizeOf184
  v233 := Tryz.zeroValue184
  g17 := by kernel_rfl
  g18 := by kernel_rfl
  g19 := by kernel_rfl
  i0 := by kernel_rfl
  i2 := by kernel_rfl
  i3 := by kernel_rfl
  i4 := by kernel_rfl
  i5 := by kernel_rfl
  i9 := by kernel_rfl
  i20 := by kernel_rfl
  i37 := by kernel_rfl
  i46 := by kernel_rfl
  i51 := by kernel_rfl
  i53 := by kernel_rfl
  i171 := by kernel_rfl
  i173 := by kernel_rfl
  i212 := by kernel_rfl
  i232 := by kernel_rfl
  i233 := by kernel_rfl
  m17 := by kernel_rfl
  m18 := by kernel_rfl
  m19 := by kernel_rfl }
namespace YtpmhdcmmlkjjmaaGreatDoor
open Go.Lib
theorem appint_any (i : Int) (hi : In64 i) (B : Nat) (bv : Value) (bs : List UInt8) (w : World) (td : Tdl w) (hB3 : 9 < B) (hBw : B ≤ w.heap.size) (ho : OwnB B bv bs w) (hlen : bs.length ≤ 1000000000) :
    Calls Tryz.prog 39 #[bv, .int .i64 i, .int .i64 10] w (ApPost B (bs ++ itoa i) w) := by
  have htab : TabBelow Tryz.prog B w "internal/strconv.uint64pow10" .u64 pow10Tab := fun w' hb => td.p.below hb hB3
  have c := Any.strconv_AppendInt_10 Tryz.lays176 B bs.length i hi.1 hi.2 bv (byteCells bs) w ho hBw (by omega) htab
  refine c.mono ?_
  rintro e w' ⟨v', rfl, h1, h2, _⟩
  refine ⟨v', rfl, ?_, h2⟩
  show w'.ownsRow B 5 1 v' (bs ++ itoa i).length (byteCells (bs ++ itoa i))
  have e : byteCells (bs ++ itoa i) = byteCells bs ++ byteCells (itoa i) := by simp [byteCells]
  rw [e, List.length_append]
  exact h1
end YtpmhdcmmlkjjmaaGreatDoor
end Go.Proofs
