import Derived.Test.YtjgbjhahmgegiaaGreatDoorPtrB
/- pointer.Print, Parse. -/
set_option linter.unusedSimpArgs false
set_option linter.unusedVariables false
namespace Go.Proofs.YtjgbjhahmgegiaaGreatDoor
open Go.RowKit Go.Lib
def dat (l : List ByteArray) : List (List UInt8) := l.map (fun s => s.data.toList)
theorem neN (x c : UInt8) (h : ¬ x = c) : ¬ ((x.toNat : Nat) : Int) = ((c.toNat : Nat) : Int) := fun e => h (UInt8.toNat_inj.1 (by omega))
theorem pc_get (A l : List ByteArray) (j : Nat) (hA : A.length = j) (hj : j < l.length) : ((A ++ l.drop j).map Value.string).toArray[j]? = some (.string l[j]) := by
  rw [List.getElem?_toArray, List.getElem?_map, List.getElem?_append_right (by omega), hA, Nat.sub_self, List.getElem?_drop, Nat.add_zero, List.getElem?_eq_getElem hj]
  rfl
theorem pc_cut (l : List ByteArray) (j : Nat) (hj : j < l.length) : dat l = dat (l.take j) ++ ((l[j]).data.toList :: dat (l.drop (j + 1))) := by
  have h : l.take j ++ l[j] :: l.drop (j + 1) = l := by rw [← List.drop_eq_getElem_cons hj, List.take_append_drop]
  have h2 := congrArg dat h
  rw [← h2]
  simp only [dat, List.map_append, List.map_cons]
theorem pc_take (l : List ByteArray) (j : Nat) (hj : j < l.length) : dat (l.take (j + 1)) = dat (l.take j) ++ [(l[j]).data.toList] := by
  rw [List.take_succ_eq_append_getElem hj]
  simp only [dat, List.map_append, List.map_cons, List.map_nil]
theorem pc_set (A l : List ByteArray) (j : Nat) (hA : A.length = j) (hj : j < l.length) (u : ByteArray) : ((A ++ l.drop j).map Value.string).toArray.setIfInBounds j (.string u) = (((A ++ [u]) ++ l.drop (j + 1)).map Value.string).toArray := by
  rw [List.drop_eq_getElem_cons hj, List.setIfInBounds_toArray, List.map_append, List.set_append_right _ _ (by rw [List.length_map]; omega), List.length_map, hA, Nat.sub_self]
  simp only [List.map_append, List.map_cons, List.map_nil, List.set_cons_zero, List.append_assoc, List.cons_append, List.nil_append]
/-- what Parse answers -/
def PaPost (o : Option (List (List UInt8))) (w : World) (e : Ending) (w' : World) : Prop := ∃ (v : Value) (l : List ByteArray), e = .returned (.tuple #[v, .int .i64 (if o.isSome then 0 else 40)]) ∧ dat l = o.getD [] ∧ LiesS w' v l ∧ Below w.heap.size w w'
theorem unes_app : ∀ (a b : List (List UInt8)), unes (a ++ b) = (unes a).bind (fun x => (unes b).map (x ++ ·))
  | [], b => by simp [unes]
  | x :: t, b => by
    rw [List.cons_append, unes, unes, unes_app t b]
    cases une x with
    | none => rfl
    | some u =>
      cases unes t with
      | none => rfl
      | some z =>
        cases unes b <;> simp
theorem spl_len (c : UInt8) : ∀ s : List UInt8, (spl c s).length ≤ s.length + 1
  | [] => by simp [spl]
  | x :: t => by
    have ih := spl_len c t
    rw [spl]
    split
    · simp; omega
    · split
      · rename_i h r e; rw [e] at ih; simp at ih ⊢; omega
      · simp
theorem spl_mem (c : UInt8) : ∀ s : List UInt8, ∀ x ∈ spl c s, x.length ≤ s.length
  | [], x, h => by
    simp [spl] at h
    simp [h]
  | y :: t, x, h => by
    have ih := spl_mem c t
    rw [spl] at h
    split at h
    · rcases List.mem_cons.1 h with rfl | h
      · simp
      · have := ih x h; simp; omega
    · split at h
      · rename_i g r e
        rcases List.mem_cons.1 h with rfl | h
        · have := ih g (by rw [e]; simp); simp; omega
        · have := ih x (by rw [e]; simp [h]); simp; omega
      · simp at h; subst h; simp
set_option maxHeartbeats 2000000 in
set_option maxRecDepth 100000 in
theorem pparse_any (p : ByteArray) (w : World) (hp : p.size ≤ 2147483648) (tp : Tp w) : Calls Tryz.prog 48 #[.string p] w (PaPost (parF p.data.toList) w) := by
  have hz2 := tp.z
  have hpl := toList_size p
  obtain ⟨O, hO⟩ : ∃ O, parF p.data.toList = O := ⟨_, rfl⟩
  rw [hO]
  cases hd : p.data.toList with
  | nil =>
    rw [hd] at hO hpl
    obtain rfl : p = ⟨#[]⟩ := by
      rcases p with ⟨⟨q⟩⟩
      simp only at hd
      rw [hd]
    have HR : Hid (O = some []) := by show _ = _; rw [← hO, parF]
    clear hO
    go_enter Tryz.func48, Tryz.ntmps48
    go_wp2_with fail
    go_ret2
    exact ⟨_, [], by rw [HR.out]; rfl, by rw [HR.out]; rfl, liesS_nil w, Below.refl _ _⟩
  | cons x q =>
    have CV := hmk (valid_any p w (by omega) tp.u)
    have HT : Hid (∀ W, Below w.heap.size w W → Tp W) := fun W hb => tp.below hb hz2
    rw [hd] at hO hpl CV
    have HO : Hid ((if x = 47 ∧ validD (x :: q) = true then unes (spl 47 q) else none) = O) := by show _ = _; rw [← hO, parF]
    have hne : p.toList ≠ [] := by rw [ByteArray.toList_eq, hd]; simp
    have e0 : (p.toList == []) = false := by simpa using hne
    have hs0 : 0 < p.size := by rw [← hpl]; simp
    have hx0 : p[0] = x := by
      have : p.data.toList[0]? = some x := by rw [hd]; rfl
      rw [Array.getElem?_toList] at this
      exact Option.some.inj ((Array.getElem?_eq_getElem (xs := p.data) hs0).symm.trans this)
    have hx0n : (p[0]).toNat = x.toNat := by rw [hx0]
    clear hx0 hO tp hne
    by_cases h47 : x = 47
    · subst h47
      have hx47 : ((p[0]).toNat : Int) = 47 := by rw [hx0n]; rfl
      have hxe := ext_one p 47 q hd
      have hxl := toList_size (p.extract 1 p.size)
      rw [hxe] at hxl
      have HX : Hid ((p.extract 1 p.size).data.toList = q ∧ (p.extract 1 p.size).size = q.length) := ⟨hxe, hxl.symm⟩
      have hql : q.length + 1 = p.size := by rw [← hpl]; simp
      have y1 : (1 : Int) ≤ p.size := by omega
      have y1n : 1 ≤ p.size := by omega
      have HQ : Hid (q.length ≤ 2147483648) := by show _ ≤ _; omega
      clear hxe hxl hpl hx0n hql
      generalize hV : validD (47 :: q) = V at HO CV
      clear hV
      go_enter Tryz.func48, Tryz.ntmps48
      go_wp2_with fail
      refine CV.out.mono ?_
      rintro e w1 ⟨rfl, b1⟩
      have hz1 := b1.size
      cases V with
      | false =>
        have HR : Hid (O = none) := by show _ = _; rw [← HO.out, if_neg (fun h => by cases h.2)]
        go_wp2_with fail
        go_ret2
        exact ⟨_, [], by rw [HR.out]; rfl, by rw [HR.out]; rfl, liesS_nil _, b1⟩
      | true =>
        have HR : Hid (unes (spl 47 q) = O) := by show _ = _; rw [← HO.out, if_pos (by simp)]
        have CS := hmk (split_any (p.extract 1 p.size) w1 (by rw [HX.out.2]; have := HQ.out; omega) (HT.out w1 b1).m)
        rw [HX.out.1] at CS
        clear CV HO HX
        go_wp2_with fail
        refine CS.out.mono ?_
        rintro e w2 ⟨l, hdl, rfl, rfl⟩
        have hlen : l.length ≤ 2147483649 := by
          have h1 := spl_len 47 q
          have h2 := congrArg List.length hdl
          rw [List.length_map] at h2
          have := HQ.out
          omega
        have HLm : Hid (∀ j (h : j < l.length), (l[j]).size ≤ 2147483648) := fun j h => by
          have h1 : (l[j]).data.toList ∈ spl 47 q := by rw [← hdl]; exact List.mem_map.2 ⟨l[j], List.getElem_mem h, rfl⟩
          have h2 := spl_mem 47 q _ h1
          rw [toList_size] at h2
          have := HQ.out
          omega
        have HO2 : Hid (unes (dat l) = O) := by show _ = _; rw [← HR.out, ← hdl]; rfl
        have B2 : Below w1.heap.size w1 (w1.alloc (.cells (l.map Value.string).toArray 9)) := (Below.refl _ _).alloc (Nat.le_refl _) _
        have hblk0 : (w1.alloc (.cells (l.map Value.string).toArray 9)).heap[w1.heap.size]? = some (.cells (l.map Value.string).toArray 9) := alloc_last w1 _
        have hz2' := alloc_size w1 (.cells (l.map Value.string).toArray 9)
        clear CS hdl HR
        go_wp2_with fail
        generalize (w1.alloc (.cells (l.map Value.string).toArray 9)) = w2 at *
        go_loopw [24] (fun e wr => ∃ (j : Nat) (A : List ByteArray), j ≤ l.length ∧ e = .int .i64 (j : Int) ∧ A.length = j ∧ Hid (unes (dat (l.take j)) = some (dat A)) ∧ Hid (wr.heap[w1.heap.size]? = some (.cells ((A ++ l.drop j).map Value.string).toArray 9)) ∧ Hid (Below w1.heap.size w1 wr)) (fun e _ => l.length - (RowKit.intOf e).toNat)
        case atStart => exact ⟨0, [], by omega, rfl, rfl, by show _ = _; rfl, by show _ = _; exact hblk0, B2⟩
        case round =>
          clear hblk0 B2
          obtain ⟨j, A, hj, rfl, hA, HU, HK, HB⟩ := hrel
          have hzr := HB.out.size
          have hgr : w1.heap.size < wr.heap.size := by
            rcases Nat.lt_or_ge w1.heap.size wr.heap.size with h | h
            · exact h
            · have := HK.out; rw [Array.getElem?_eq_none h] at this; cases this
          by_cases hjl : j < l.length
          · have y3 : (j : Int) < l.length := by omega
            have hget := pc_get A l j hA hjl
            have c1 : wr.cell? ⟨w1.heap.size, j, none⟩ = some (.string l[j]) := by rw [cell_of_block HK.out, hget]
            have BW := HT.out wr (b1.trans (HB.out.mono hz1))
            have CU := hmk (unesc_any l[j] wr (by have := HLm.out j hjl; omega) BW)
            have HN : Hid (une (l[j]).data.toList = none → O = none) := fun h => by
              rw [← HO2.out]
              rw [pc_cut l j hjl, unes_app, HU.out, unes, h]
              rfl
            have HS : Hid (∀ u, une (l[j]).data.toList = some u → unes (dat (l.take (j + 1))) = some (dat (A ++ [⟨u.toArray⟩]))) := fun u h => by
              rw [pc_take l j hjl, unes_app, HU.out, unes, h, unes]
              simp [dat]
            have HD : Hid (∀ u : ByteArray, ((A ++ l.drop j).map Value.string).toArray.setIfInBounds j (.string u) = (((A ++ [u]) ++ l.drop (j + 1)).map Value.string).toArray) := fun u => pc_set A l j hA hjl u
            generalize l[j] = xj at *
            generalize hu : une xj.data.toList = U at CU HN HS
            clear hu hget
            go_wp2_with fail
            refine CU.out.mono ?_
            rintro e w3 ⟨rfl, b3⟩
            have hz3 := b3.size
            have B3 := HB.out.trans (b3.mono (by omega))
            have K3 := (b3.block w1.heap.size hgr).trans HK.out
            cases U with
            | none =>
              have HR : Hid (O = none) := HN.out rfl
              go_wp2_with fail
              go_ret2
              exact ⟨_, [], by rw [HR.out]; rfl, by rw [HR.out]; rfl, liesS_nil _, b1.trans (B3.mono hz1)⟩
            | some u =>
              have c3 : w3.cell? ⟨w1.heap.size, j, none⟩ = some (.string xj) := (b3.cell (p := ⟨w1.heap.size, j, none⟩) hgr).trans c1
              have f3 : w3.frozen? ⟨w1.heap.size, j, none⟩ = false := frozen_of_block K3 j
              have HK3 : Hid (w3.heap[w1.heap.size]? = some (.cells ((A ++ l.drop j).map Value.string).toArray 9)) := K3
              have HU' := HS.out u rfl
              have HUU : Hid (unes (dat (l.take (j + 1))) = some (dat (A ++ [⟨u.toArray⟩]))) := HU'
              clear K3 HU' HS HN
              simp only [Option.getD_some, Option.isSome_some]
              have HE : Hid ((⟨u.toArray⟩ : ByteArray) = ⟨u.toArray⟩) := rfl
              generalize (⟨u.toArray⟩ : ByteArray) = qu at *
              go_wp2_with fail
              go_roundw
              case rel => exact ⟨j + 1, A ++ [qu], by omega, by go_num, by simp [hA], HUU, by (show _ = _; rw [set_block HK3.out, HD.out]), B3.setCell (Nat.le_refl _) _⟩
              case measure => simp [RowKit.intOf]; omega
          · obtain rfl : j = l.length := by omega
            have y3 : ¬ (l.length : Int) < l.length := by omega
            have HR : Hid (O = some (dat A)) := by show _ = _; rw [← HO2.out]; have := HU.out; rw [List.take_length] at this; exact this
            have HK' : Hid (∀ i (h : i < A.length), wr.cell? ⟨w1.heap.size, 0 + i, none⟩ = some (.string A[i])) := fun i h => by
              rw [cell_of_block HK.out]
              simp [h, List.getElem?_append_left]
            go_wp2_with fail
            go_ret2
            refine ⟨.slice (some ⟨w1.heap.size, 0, none⟩) l.length l.length, A, by rw [HR.out]; rfl, by rw [HR.out]; rfl, ⟨⟨_, _, by rw [hA]⟩, fun _ => ⟨w1.heap.size, 0, _, by rw [hA], by rw [hA]; exact Nat.le_refl _, hgr, HK'.out⟩⟩, b1.trans (HB.out.mono hz1)⟩
    · have HR : Hid (O = none) := by show _ = _; rw [← HO.out, if_neg (fun h => h47 h.1)]
      have hxi : ¬ ((p[0]).toNat : Int) = 47 := by rw [hx0n]; have := neN x 47 h47; simpa using this
      clear HO CV
      go_enter Tryz.func48, Tryz.ntmps48
      go_wp2_with fail
      go_ret2
      exact ⟨_, [], by rw [HR.out]; rfl, by rw [HR.out]; rfl, liesS_nil _, Below.refl _ _⟩
end Go.Proofs.YtjgbjhahmgegiaaGreatDoor
