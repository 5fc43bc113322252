import Derived.Test.YtagjbphadakifaaDoorSimC
/- the document's allowed (layer 20). -/
set_option linter.unusedSimpArgs false
set_option linter.unusedVariables false
namespace Go.Proofs.YtagjbphadakifaaDoor
open Go.RowKit Go.Lib
/-- does an In of the key let the text through? -/
def letQ (key s : ByteArray) (t : Trm) : Bool := !(isOp key 3 t) || amongB t.2.2 s
def okS (l : List Trm) (key : ByteArray) (no : List ByteArray) (s : ByteArray) : Bool := !(amongB no s) && l.all (letQ key s)
def pickL (l : List Trm) (key : ByteArray) (no acc vs : List ByteArray) : List ByteArray := vs.foldl (fun acc s => if okS l key no s then addV acc s else acc) acc
theorem pickL_next {l : List Trm} {key : ByteArray} {no acc vs : List ByteArray} {k : Nat} (h : k < vs.length) : pickL l key no acc (vs.take (k + 1)) = if okS l key no vs[k] then addV (pickL l key no acc (vs.take k)) vs[k] else pickL l key no acc (vs.take k) := by
  unfold pickL
  rw [List.take_succ_eq_append_getElem h, List.foldl_append]
  rfl
theorem pickL_small : ∀ {vs acc : List ByteArray} {l : List Trm} {key : ByteArray} {no : List ByteArray}, SmallS acc → SmallS vs → SmallS (pickL l key no acc vs)
  | [], acc, _, _, _, h, _ => h
  | x :: t, acc, l, key, no, h, hv => by
    have e : pickL l key no acc (x :: t) = pickL l key no (if okS l key no x then addV acc x else acc) t := rfl
    rw [e]
    refine pickL_small ?_ (fun y hy => hv y (List.mem_cons_of_mem _ hy))
    split
    · exact addV_small h (hv x (by simp))
    · exact h
theorem pickL_len : ∀ (vs acc : List ByteArray) (l : List Trm) (key : ByteArray) (no : List ByteArray), (pickL l key no acc vs).length ≤ acc.length + vs.length
  | [], acc, _, _, _ => by simp [pickL]
  | x :: t, acc, l, key, no => by
    have e : pickL l key no acc (x :: t) = pickL l key no (if okS l key no x then addV acc x else acc) t := rfl
    have h1 := pickL_len t (if okS l key no x then addV acc x else acc) l key no
    have h2 := addV_len acc x
    have h3 : (if okS l key no x then addV acc x else acc).length ≤ acc.length + 1 := by split <;> omega
    rw [e, List.length_cons]; omega
theorem take_all_step {l : List Trm} {key s : ByteArray} {j : Nat} (h : j < l.length) : (l.take (j + 1)).all (letQ key s) = ((l.take j).all (letQ key s) && letQ key s l[j]) := by
  rw [List.take_succ_eq_append_getElem h, List.all_append]
  simp
def allowV (l : List Trm) (key : ByteArray) (no : List ByteArray) (k : List Trm) : List ByteArray := k.foldl (fun acc t => if isOp key 3 t then pickL l key no acc t.2.2 else acc) []
theorem allowV_next {l k : List Trm} {key : ByteArray} {no : List ByteArray} {j : Nat} (h : j < k.length) : allowV l key no (k.take (j + 1)) = if isOp key 3 k[j] then pickL l key no (allowV l key no (k.take j)) (k[j]).2.2 else allowV l key no (k.take j) := by
  unfold allowV
  rw [List.take_succ_eq_append_getElem h, List.foldl_append]
  rfl
set_option maxHeartbeats 8000000 in
set_option maxRecDepth 100000 in
theorem rallowed_any (l : List Trm) (key : ByteArray) (R : Bool) (S : Nat → Prop) (al : Option Addr) (cl bl ol : Nat) (w : World) (hh : Headed al l.length cl bl ol) (hl : liesT R w S l bl ol) (hS : ∀ y, S y → y < w.heap.size) (hwt : wtT l ≤ 2147483647) (hns : SmallS (gatV 4 l key)) :
    Calls Tryd.prog 40 #[.slice al l.length cl, .string key] w (fun e w' => ∃ v, e = .returned v ∧ OwnSt w' w.heap.size (fun _ => False) v (allowV l key (gatV 4 l key) l) ∧ Below w.heap.size w w') := by
  have HH := hmk hh
  have HL := hmk hl
  have hm : l.length ≤ 2147483647 := Nat.le_trans (wtT_len l) hwt
  have C0 := hmk (rbarred_any l key R S al cl bl ol w hh hl hS hwt)
  clear hh hl
  go_enter Tryd.func40, Tryd.ntmps40
  go_wp2_with fail
  refine C0.out.mono ?_
  rintro e w1 ⟨v1, rfl, o1, B1⟩
  obtain ⟨na, nc, nb, no', rfl, hnh, hnl⟩ := own_read o1 hns
  generalize hno : gatV 4 l key = no at *
  have HNO : Hid (∀ W, Below w1.heap.size w1 W → ∀ s, Calls Tryd.prog 48 #[.slice na no.length nc, .string s] W (fun e w' => e = .returned (.bool (amongB no s)) ∧ w' = W)) := fun W hW s => among_any no s _ na nc nb no' W hnh (hnl.keep (fun y hy => hW.block y hy.2) (fun _ h => h))
  have hz1 := B1.size
  have HB1 : Hid (∀ W, Below w1.heap.size w1 W → Below w.heap.size w W) := fun W hW => B1.trans (hW.mono hz1)
  have HTA : Hid (∀ W, Below w1.heap.size w1 W → ∀ j (hj : j < l.length), ∃ ta tc tb to', (W.cell? ⟨bl, ol + j * 3, none⟩ = some (.string (l[j]).1) ∧ W.cell? ⟨bl, ol + j * 3 + 1, none⟩ = some (.int .i64 (l[j]).2.1) ∧ W.cell? ⟨bl, ol + j * 3 + 2, none⟩ = some (.slice ta (l[j]).2.2.length tc)) ∧ Headed ta (l[j]).2.2.length tc tb to' ∧ liesS W S (l[j]).2.2 tb to') := fun W hW j hj => by
    have hBW := HB1.out W hW
    obtain ⟨s1, cs, row1, t1⟩ := HL.out j hj
    obtain ⟨ta, tc, tb, to', rfl, _, hks, hd1, ts1, _⟩ := t1
    exact ⟨ta, tc, tb, to', row3 (row1.keep (hBW.block _ (hS _ s1))), hd1, ts1.keep (fun y hy => hBW.block y (hS y hy)) (fun _ h => h)⟩
  clear o1 hnh hnl C0
  go_wp2_with fail
  go_loopw [5, 7] (fun e5 e7 wr => ∃ j : Nat, j ≤ l.length ∧ e7 = .int .i64 (j : Int) ∧ Below w1.heap.size w1 wr ∧ Hid (OwnSt wr w1.heap.size (fun _ => False) e5 (allowV l key no (l.take j))) ∧ Hid (SmallS (allowV l key no (l.take j))) ∧ (allowV l key no (l.take j)).length ≤ wtT (l.take j)) (fun _ e7 _ => l.length - (RowKit.intOf e7).toNat)
  case atStart => exact ⟨0, by omega, rfl, Below.refl _ _, (by show OwnSt _ _ _ _ _; simpa [allowV] using OwnR.nil _ _), (by show SmallS _; intro s hs; simp [allowV] at hs), by simp [allowV, wtT]⟩
  case round =>
    obtain ⟨j, hj, rfl, Bj, HO, HSM, hgl⟩ := hrel
    have hzr := Bj.size
    by_cases hjl : j < l.length
    · have y1 : (j : Int) < l.length := by omega
      obtain rfl : al = some ⟨bl, ol, none⟩ := HH.out.at_.resolve_left (by omega)
      obtain ⟨ta, tc, tb, to', ⟨q, q0, q1⟩, hd1, ts1⟩ := HTA.out wr Bj j hjl
      have HN := hmk (allowV_next (l := l) (no := no) (key := key) hjl)
      have hwj := wtT_take hjl
      have hwl := wtT_part l j hj
      have hwl2 := wtT_part l (j + 1) (by omega)
      have hvl := wtS_len (l[j]).2.2
      generalize allowV l key no (l.take j) = acc at *
      by_cases hk : ((l[j]).1.toList == key.toList) = true
      · by_cases ho : ((l[j]).2.1 == 3) = true
        · skip
          rw [show isOp key 3 l[j] = true by unfold isOp; rw [hk, ho]; rfl, if_pos rfl] at HN
          have hne : ((l[j]).2.1 != 3) = false := by unfold bne; rw [ho]; rfl
          have HVS : Hid (SmallS (l[j]).2.2) := fun s hs => by
            obtain ⟨k, hk, rfl⟩ := List.mem_iff_getElem.1 hs
            exact (ts1 k hk).2.1
          have hblk : bl < wr.heap.size := World.block_lt_of_cell? wr ⟨bl, ol + j * 3, none⟩ q
          have HTJ : Hid (∀ W, Below wr.heap.size wr W → W.cell? ⟨bl, ol + j * 3 + 2, none⟩ = some (.slice ta (l[j]).2.2.length tc) ∧ liesS W S (l[j]).2.2 tb to') := fun W hW => ⟨(hW.cell (p := ⟨bl, ol + j * 3 + 2, none⟩) hblk).trans q1, ts1.keep (fun y hy => hW.block y (by have := hS y hy; omega)) (fun _ h => h)⟩
          have HD1 := hmk hd1
          clear hd1 ts1
          generalize l[j] = t at *
          go_wp2_with fail
          go_loopw [5, 8] (fun e5 e8 wq => ∃ k : Nat, k ≤ t.2.2.length ∧ e8 = .int .i64 (k : Int) ∧ Below wr.heap.size wr wq ∧ Hid (OwnSt wq w1.heap.size (fun _ => False) e5 (pickL l key no acc (t.2.2.take k)))) (fun _ e8 _ => t.2.2.length - (RowKit.intOf e8).toNat)
          case atStart => exact ⟨0, by omega, rfl, Below.refl _ _, (by show OwnSt _ _ _ _ _; simpa [pickL] using HO.out)⟩
          case round =>
            clear HO q q0 q1
            obtain ⟨k, hkl, rfl, Bk, HOk⟩ := hrel
            have hzk := Bk.size
            have BW := hmk (Bj.trans (Bk.mono hzr))
            obtain ⟨q1, ts1⟩ := HTJ.out _ Bk
            by_cases hkk : k < t.2.2.length
            · have y2 : (k : Int) < t.2.2.length := by omega
              have hta : ta = some ⟨tb, to', none⟩ := HD1.out.at_.resolve_left (by omega)
              rw [hta] at q1
              clear hta
              obtain ⟨_, _, p1⟩ := ts1 k hkk
              have hal := pickL_len (t.2.2.take k) acc l key no
              have htl : (t.2.2.take k).length ≤ k := List.length_take_le _ _
              have hsm2 : SmallS (pickL l key no acc (t.2.2.take k)) := pickL_small HSM.out (fun s hs => HVS.out s (List.mem_of_mem_take hs))
              have C := hmk (own_add (pickL l key no acc (t.2.2.take k)) t.2.2[k] u5 w1.heap.size wr HOk.out (by omega) hsm2 (by omega))
              have HNX := hmk (pickL_next (l := l) (key := key) (no := no) (acc := acc) hkk)
              clear hal htl ts1 hsm2
              generalize t.2.2[k] = x at *
              go_wp2_with fail
              refine (HNO.out _ BW.out x).mono ?_
              rintro e w2 ⟨rfl, hw2⟩
              obtain rfl : wr = w2 := hw2.symm
              go_wp2_with fail
              go_loopw [10, 11] (fun e10 e11 wi => ∃ m : Nat, m ≤ l.length ∧ e10 = .bool (!(amongB no x) && (l.take m).all (letQ key x)) ∧ e11 = .int .i64 (m : Int) ∧ wi = wr) (fun _ e11 _ => l.length - (RowKit.intOf e11).toNat)
              case atStart => exact ⟨0, by omega, by simp, rfl, rfl⟩
              case round =>
                clear q1 p1
                obtain ⟨m, hml, rfl, rfl, rfl⟩ := hrel
                by_cases hmm : m < l.length
                · have y3 : (m : Int) < l.length := by omega
                  obtain ⟨sa, sc, sb, so, ⟨r, r0, r1⟩, hd2, ts2⟩ := HTA.out _ BW.out m hmm
                  have C2 := hmk (among_any (l[m]).2.2 x S sa sc sb so _ hd2 ts2)
                  have HA := hmk (take_all_step (l := l) (key := key) (s := x) hmm)
                  clear hd2 ts2
                  generalize l[m] = y at *
                  by_cases hk2 : (y.1.toList == key.toList) = true
                  · by_cases ho2 : (y.2.1 == 3) = true
                    · have hlq : letQ key x y = amongB y.2.2 x := by unfold letQ isOp; rw [hk2, ho2]; simp
                      rw [hlq] at HA
                      go_wp2_with fail
                      refine C2.out.mono ?_
                      rintro e w2 ⟨rfl, rfl⟩
                      cases hb : amongB y.2.2 x
                      · rw [hb] at HA
                        go_wp2_with fail
                        go_roundw
                        case rel => exact ⟨m + 1, by omega, by rw [HA.out]; simp, by go_num, by trivial⟩
                        case measure => simp [RowKit.intOf]; omega
                      · rw [hb] at HA
                        go_wp2_with fail
                        go_roundw
                        case rel => exact ⟨m + 1, by omega, by rw [HA.out]; simp, by go_num, by trivial⟩
                        case measure => simp [RowKit.intOf]; omega
                    · have ho2' : (y.2.1 == 3) = false := by simpa using ho2
                      have hlq : letQ key x y = true := by unfold letQ isOp; rw [ho2']; simp
                      rw [hlq] at HA
                      clear ho2
                      go_wp2_with fail
                      go_roundw
                      case rel => exact ⟨m + 1, by omega, by rw [HA.out]; simp, by go_num, by trivial⟩
                      case measure => simp [RowKit.intOf]; omega
                  · have hk2' : (y.1.toList == key.toList) = false := by simpa using hk2
                    have hlq : letQ key x y = true := by unfold letQ isOp; rw [hk2']; simp
                    rw [hlq] at HA
                    clear hk2
                    go_wp2_with fail
                    go_roundw
                    case rel => exact ⟨m + 1, by omega, by rw [HA.out]; simp, by go_num, by trivial⟩
                    case measure => simp [RowKit.intOf]; omega
                · obtain rfl : m = l.length := by omega
                  have y3 : ¬ (l.length : Int) < l.length := by omega
                  have hv : (!(amongB no x) && (l.take l.length).all (letQ key x)) = okS l key no x := by simp [okS]
                  rw [hv]
                  clear hv
                  cases hb : okS l key no x
                  · rw [hb, if_neg (by simp)] at HNX
                    go_wp2_with fail
                    (try simp only [Exit.inBlock, Exit.then])
                    go_wp2_with fail
                    go_roundw
                    case rel => exact ⟨k + 1, by omega, by go_num, Bk, by rw [HNX.out]; exact HOk⟩
                    case measure => simp [RowKit.intOf]; omega
                  · rw [hb, if_pos rfl] at HNX
                    go_wp2_with fail
                    (try simp only [Exit.inBlock, Exit.then])
                    go_wp2_with fail
                    refine C.out.mono ?_
                    rintro e w2 ⟨v2, rfl, o2, b2⟩
                    have O2 : Hid (OwnSt w2 w1.heap.size (fun _ => False) v2 (pickL l key no acc (t.2.2.take (k + 1)))) := by show OwnSt _ _ _ _ _; rw [HNX.out]; exact o2
                    have B2 := Bk.trans (b2.mono hzk)
                    clear o2 b2 C
                    go_wp2_with fail
                    go_roundw
                    case rel => exact ⟨k + 1, by omega, by go_num, B2, O2⟩
                    case measure => simp [RowKit.intOf]; omega
            · obtain rfl : k = t.2.2.length := by omega
              have y2 : ¬ (t.2.2.length : Int) < t.2.2.length := by omega
              rw [List.take_length] at HOk
              have hal := pickL_len t.2.2 acc l key no
              have B3 := hmk (Bj.trans (Bk.mono hzr))
              go_wp2_with fail
              (try simp only [Exit.inBlock, Exit.then])
              go_wp2_with fail
              go_roundw
              case rel => exact ⟨j + 1, by omega, by go_num, B3.out, by rw [HN.out]; exact HOk, by rw [HN.out]; exact pickL_small HSM.out HVS.out, by rw [HN.out, hwj]; omega⟩
              case measure => simp [RowKit.intOf]; omega
        · have ho' : ((l[j]).2.1 == 3) = false := by simpa using ho
          rw [show isOp key 3 l[j] = false by unfold isOp; rw [ho', Bool.and_false], if_neg (by simp)] at HN
          clear ho hd1 ts1
          generalize l[j] = t at *
          go_wp2_with fail
          go_roundw
          case rel => exact ⟨j + 1, by omega, by go_num, Bj, by rw [HN.out]; exact HO, by rw [HN.out]; exact HSM, by rw [HN.out, hwj]; omega⟩
          case measure => simp [RowKit.intOf]; omega
      · have hk' : ((l[j]).1.toList == key.toList) = false := by simpa using hk
        rw [show isOp key 3 l[j] = false by unfold isOp; rw [hk', Bool.false_and], if_neg (by simp)] at HN
        clear hk hd1 ts1
        generalize l[j] = t at *
        go_wp2_with fail
        go_roundw
        case rel => exact ⟨j + 1, by omega, by go_num, Bj, by rw [HN.out]; exact HO, by rw [HN.out]; exact HSM, by rw [HN.out, hwj]; omega⟩
        case measure => simp [RowKit.intOf]; omega
    · obtain rfl : j = l.length := by omega
      have y1 : ¬ (l.length : Int) < l.length := by omega
      rw [List.take_length] at HO
      have HF := hmk (HB1.out _ Bj)
      have HO2 := hmk (HO.out.base hz1)
      go_wp2_with fail
      (try simp only [Exit.inBlock, Exit.then])
      go_ret
      have HO3 : OwnSt wr w.heap.size (fun _ => False) u5 (allowV l key (gatV 4 l key) l) := by rw [hno]; exact HO2.out
      refine ⟨_, rfl, ?_, HF.out⟩
      first | exact HO2.out | exact HO3
end Go.Proofs.YtagjbphadakifaaDoor
