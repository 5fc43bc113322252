import Derived.Test.YtagjbphadakifaaDoorSimB
/- the document's barred (layer 20). -/
set_option linter.unusedSimpArgs false
set_option linter.unusedVariables false
namespace Go.Proofs.YtagjbphadakifaaDoor
open Go.RowKit Go.Lib
def SmallS (l : List ByteArray) : Prop := ∀ s ∈ l, s.size ≤ 140737488355328
theorem addV_mem {l : List ByteArray} {s x : ByteArray} (h : x ∈ addV l s) : x ∈ l ∨ x = s := by
  unfold addV at h
  split at h
  · exact .inl h
  · rw [List.mem_append, List.mem_append] at h
    rcases h with (h | h) | h
    · exact .inl (List.mem_of_mem_take h)
    · exact .inr (by simpa using h)
    · exact .inl (List.mem_of_mem_drop h)
theorem addV_len (l : List ByteArray) (s : ByteArray) : (addV l s).length ≤ l.length + 1 := by
  unfold addV
  split
  · omega
  · rw [List.length_append, List.length_append, List.length_take, List.length_drop]; simp only [List.length_singleton]; have := addI_le l s; omega
theorem addV_small {l : List ByteArray} {s : ByteArray} (h : SmallS l) (hs : s.size ≤ 140737488355328) : SmallS (addV l s) := fun x hx => by
  rcases addV_mem hx with h1 | h1
  · exact h x h1
  · rw [h1]; exact hs
theorem own_add (acc : List ByteArray) (s : ByteArray) (v : Value) (base : Nat) (w : World) (ho : OwnSt w base (fun _ => False) v acc) (hb : base ≤ w.heap.size) (hsm : SmallS acc) (hlen : acc.length ≤ 2147483647) :
    Calls Tryd.prog 39 #[v, .string s] w (fun e w' => ∃ v', e = .returned v' ∧ OwnSt w' base (fun _ => False) v' (addV acc s) ∧ Below w.heap.size w w') := by
  have ho' := ho
  obtain ⟨a, c, b, o, rfl, hh, hl⟩ := own_read ho hsm
  refine (radd_any acc s _ a c b o w hh hl (fun y hy => hy.2) hlen).mono ?_
  rintro e w1 ⟨v1, rfl, h, b1⟩
  rcases h with ⟨rfl, hin⟩ | ⟨h, hin⟩
  · refine ⟨_, rfl, ?_, b1⟩
    have : addV acc s = acc := by unfold addV; rw [hin, if_pos rfl]
    rw [this]
    exact ho'.below keepS b1
  · exact ⟨_, rfl, h.base hb, b1⟩
def addsV (acc vs : List ByteArray) : List ByteArray := vs.foldl addV acc
theorem addsV_next {acc vs : List ByteArray} {k : Nat} (h : k < vs.length) : addsV acc (vs.take (k + 1)) = addV (addsV acc (vs.take k)) vs[k] := by
  unfold addsV
  rw [List.take_succ_eq_append_getElem h, List.foldl_append]
  rfl
theorem addsV_small : ∀ {vs acc : List ByteArray}, SmallS acc → SmallS vs → SmallS (addsV acc vs)
  | [], acc, h, _ => h
  | x :: t, acc, h, hv => addsV_small (vs := t) (acc := addV acc x) (addV_small h (hv x (by simp))) (fun y hy => hv y (List.mem_cons_of_mem _ hy))
theorem addsV_len : ∀ (vs acc : List ByteArray), (addsV acc vs).length ≤ acc.length + vs.length
  | [], acc => by simp [addsV]
  | x :: t, acc => by
    have h1 := addsV_len t (addV acc x)
    have h2 := addV_len acc x
    have e : addsV acc (x :: t) = addsV (addV acc x) t := rfl
    rw [e, List.length_cons]; omega
theorem wtT_part (l : List Trm) (i : Nat) (hi : i ≤ l.length) : wtT (l.take i) ≤ wtT l := by
  have : ∀ k, i + k ≤ l.length → wtT (l.take i) ≤ wtT (l.take (i + k)) := by
    intro k
    induction k with
    | zero => intro _; exact Nat.le_refl _
    | succ k ih =>
      intro hk
      have h1 := ih (by omega)
      have h2 := wtT_take (show i + k < l.length by omega)
      rw [← Nat.add_assoc, h2]
      omega
  have h := this (l.length - i) (by omega)
  rw [show i + (l.length - i) = l.length by omega, List.take_length] at h
  exact h
def gatV (op : Int) (l : List Trm) (key : ByteArray) : List ByteArray := l.foldl (fun acc t => if isOp key op t then addsV acc t.2.2 else acc) []
theorem gatV_next {op : Int} {l : List Trm} {key : ByteArray} {j : Nat} (h : j < l.length) : gatV op (l.take (j + 1)) key = if isOp key op l[j] then addsV (gatV op (l.take j) key) (l[j]).2.2 else gatV op (l.take j) key := by
  unfold gatV
  rw [List.take_succ_eq_append_getElem h, List.foldl_append]
  rfl
set_option maxHeartbeats 8000000 in
set_option maxRecDepth 100000 in
theorem rbarred_any (l : List Trm) (key : ByteArray) (R : Bool) (S : Nat → Prop) (al : Option Addr) (cl bl ol : Nat) (w : World) (hh : Headed al l.length cl bl ol) (hl : liesT R w S l bl ol) (hS : ∀ y, S y → y < w.heap.size) (hwt : wtT l ≤ 2147483647) :
    Calls Tryd.prog 41 #[.slice al l.length cl, .string key] w (fun e w' => ∃ v, e = .returned v ∧ OwnSt w' w.heap.size (fun _ => False) v (gatV 4 l key) ∧ Below w.heap.size w w') := by
  have HH := hmk hh
  have HL := hmk hl
  have hm : l.length ≤ 2147483647 := Nat.le_trans (wtT_len l) hwt
  clear hh hl
  go_enter Tryd.func41, Tryd.ntmps41
  go_wp2_with fail
  go_loopw [5, 6] (fun e5 e6 wr => ∃ j : Nat, j ≤ l.length ∧ e6 = .int .i64 (j : Int) ∧ Below w.heap.size w wr ∧ Hid (OwnSt wr w.heap.size (fun _ => False) e5 (gatV 4 (l.take j) key)) ∧ Hid (SmallS (gatV 4 (l.take j) key)) ∧ (gatV 4 (l.take j) key).length ≤ wtT (l.take j)) (fun _ e6 _ => l.length - (RowKit.intOf e6).toNat)
  case atStart => exact ⟨0, by omega, rfl, Below.refl _ _, (by show OwnSt _ _ _ _ _; simpa [gatV] using OwnR.nil _ _), (by show SmallS _; intro s hs; simp [gatV] at hs), by simp [gatV, wtT]⟩
  case round =>
    obtain ⟨j, hj, rfl, Bj, HO, HSM, hgl⟩ := hrel
    have hzr := Bj.size
    by_cases hjl : j < l.length
    · have y1 : (j : Int) < l.length := by omega
      obtain rfl : al = some ⟨bl, ol, none⟩ := HH.out.at_.resolve_left (by omega)
      obtain ⟨s1, cs, row1, t1⟩ := HL.out j hjl
      obtain ⟨ta, tc, tb, to', rfl, _, hks, hd1, ts1, _⟩ := t1
      have hbl := hS _ s1
      obtain ⟨q, q0, q1⟩ := row3 (row1.keep (Bj.block _ hbl))
      have HN := hmk (gatV_next (op := 4) (key := key) hjl)
      have hwj := wtT_take hjl
      have hwl := wtT_part l j hj
      have hwl2 := wtT_part l (j + 1) (by omega)
      have hvl := wtS_len (l[j]).2.2
      have HD1 := hmk hd1
      have HTS : Hid (∀ W, Below w.heap.size w W → liesS W S (l[j]).2.2 tb to') := fun W hW => ts1.keep (fun y hy => hW.block y (hS y hy)) (fun _ h => h)
      have HQ : Hid (∀ W, Below w.heap.size w W → W.cell? ⟨bl, ol + j * 3 + 2, none⟩ = some (.slice ta (l[j]).2.2.length tc)) := fun W hW => by
        obtain ⟨_, _, p2⟩ := row3 (row1.keep (hW.block _ hbl))
        exact p2
      have HVS : Hid (SmallS (l[j]).2.2) := fun s hs => by
        obtain ⟨k, hk, rfl⟩ := List.mem_iff_getElem.1 hs
        exact (ts1 k hk).2.1
      clear row1 hd1 ts1 hks q1
      generalize gatV 4 (l.take j) key = acc at *
      by_cases hk : ((l[j]).1.toList == key.toList) = true
      · by_cases ho : ((l[j]).2.1 == 4) = true
        · rw [show isOp key 4 l[j] = true by unfold isOp; rw [hk, ho]; rfl, if_pos rfl] at HN
          have hne : ((l[j]).2.1 != 4) = false := by unfold bne; rw [ho]; rfl
          generalize l[j] = t at *
          go_wp2_with fail
          go_loopw [5, 7] (fun e5 e7 wq => ∃ k : Nat, k ≤ t.2.2.length ∧ e7 = .int .i64 (k : Int) ∧ Below w.heap.size w wq ∧ Hid (OwnSt wq w.heap.size (fun _ => False) e5 (addsV acc (t.2.2.take k)))) (fun _ e7 _ => t.2.2.length - (RowKit.intOf e7).toNat)
          case atStart => exact ⟨0, by omega, rfl, Bj, (by show OwnSt _ _ _ _ _; simpa [addsV] using HO.out)⟩
          case round =>
            clear HO q q0 Bj hzr
            obtain ⟨k, hkl, rfl, Bk, HOk⟩ := hrel
            have hzk := Bk.size
            have q1 := HQ.out _ Bk
            by_cases hkk : k < t.2.2.length
            · have y2 : (k : Int) < t.2.2.length := by omega
              have hta : ta = some ⟨tb, to', none⟩ := HD1.out.at_.resolve_left (by omega)
              rw [hta] at q1
              clear hta
              obtain ⟨_, _, p1⟩ := HTS.out _ Bk k hkk
              have hal := addsV_len (t.2.2.take k) acc
              have htl : (t.2.2.take k).length ≤ k := List.length_take_le _ _
              have C := hmk (own_add (addsV acc (t.2.2.take k)) t.2.2[k] u5 w.heap.size wr HOk.out hzk (addsV_small HSM.out (fun s hs => HVS.out s (List.mem_of_mem_take hs))) (by omega))
              have HNX := hmk (addsV_next (acc := acc) hkk)
              clear hal htl HOk
              generalize t.2.2[k] = x at *
              go_wp2_with fail
              refine C.out.mono ?_
              rintro e w2 ⟨v2, rfl, o2, b2⟩
              have O2 : Hid (OwnSt w2 w.heap.size (fun _ => False) v2 (addsV acc (t.2.2.take (k + 1)))) := by show OwnSt _ _ _ _ _; rw [HNX.out]; exact o2
              have B2 := Bk.trans (b2.mono hzk)
              clear o2 b2 C
              go_wp2_with fail
              go_roundw
              case rel => exact ⟨k + 1, by omega, by go_num, B2, O2⟩
              case measure => simp [RowKit.intOf]; omega
            · obtain rfl : k = t.2.2.length := by omega
              have y2 : ¬ (t.2.2.length : Int) < t.2.2.length := by omega
              rw [List.take_length] at HOk
              have hal := addsV_len t.2.2 acc
              go_wp2_with fail
              (try simp only [Exit.inBlock, Exit.then])
              go_wp2_with fail
              go_roundw
              case rel => exact ⟨j + 1, by omega, by go_num, Bk, by rw [HN.out]; exact HOk, by rw [HN.out]; exact addsV_small HSM.out HVS.out, by rw [HN.out, hwj]; omega⟩
              case measure => simp [RowKit.intOf]; omega
        · have ho' : ((l[j]).2.1 == 4) = false := by simpa using ho
          rw [show isOp key 4 l[j] = false by unfold isOp; rw [ho', Bool.and_false], if_neg (by simp)] at HN
          clear ho
          generalize l[j] = t at *
          go_wp2_with fail
          go_roundw
          case rel => exact ⟨j + 1, by omega, by go_num, Bj, by rw [HN.out]; exact HO, by rw [HN.out]; exact HSM, by rw [HN.out, hwj]; omega⟩
          case measure => simp [RowKit.intOf]; omega
      · have hk' : ((l[j]).1.toList == key.toList) = false := by simpa using hk
        rw [show isOp key 4 l[j] = false by unfold isOp; rw [hk', Bool.false_and], if_neg (by simp)] at HN
        clear hk
        generalize l[j] = t at *
        go_wp2_with fail
        go_roundw
        case rel => exact ⟨j + 1, by omega, by go_num, Bj, by rw [HN.out]; exact HO, by rw [HN.out]; exact HSM, by rw [HN.out, hwj]; omega⟩
        case measure => simp [RowKit.intOf]; omega
    · obtain rfl : j = l.length := by omega
      have y1 : ¬ (l.length : Int) < l.length := by omega
      rw [List.take_length] at HO
      go_wp2_with fail
      (try simp only [Exit.inBlock, Exit.then])
      go_ret
      exact ⟨_, rfl, HO.out, Bj⟩
end Go.Proofs.YtagjbphadakifaaDoor
