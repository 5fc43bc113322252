/- joined: PtrC IdxP GidA -/
import Derived.Test.YtgnofbigggmilaaGreatDoorG14
import Derived.Lib.AtoiAll
import Derived.Lib.ItoaNum
import Derived.Lib.SmallJoins
import Derived.Lib.AppendIntMem
set_option linter.unusedSimpArgs false
set_option linter.unusedVariables false
namespace Go.Proofs.YtgnofbigggmilaaGreatDoor
open Go.RowKit Go.Lib
def dat (l : List ByteArray) : List (List UInt8) := l.map (fun s => s.data.toList)
def prT (l : List (List UInt8)) : List UInt8 := l.flatMap fun t => 47 :: esp t
def prA (l : List (List UInt8)) : Option (List UInt8) := if l.all validD = true then some (prT l) else none
def totS (l : List ByteArray) : Nat := (l.map fun s => s.size + 1).sum
theorem prT_snoc (l : List (List UInt8)) (t : List UInt8) : prT (l ++ [t]) = (prT l ++ [47]) ++ esp t := by simp [prT]
theorem prT_len : ∀ l : List ByteArray, (prT (dat l)).length ≤ 2 * totS l
 | [] => by simp [prT, dat, totS]
 | x :: t => by
  have ih := prT_len t
  have e := esp_len x.data.toList
  rw [toList_size] at e
  have h1 : prT (dat (x :: t)) = (47 :: esp x.data.toList) ++ prT (dat t) := by simp [prT, dat]
  have h2 : totS (x :: t) = (x.size + 1) + totS t := by simp [totS]
  rw [h1, h2, List.length_append, List.length_cons]
  omega
theorem totS_app (a b : List ByteArray) : totS (a ++ b) = totS a + totS b := by simp [totS]
theorem totS_take (l : List ByteArray) (j : Nat) : totS (l.take j) ≤ totS l := by
 have h := totS_app (l.take j) (l.drop j)
 rw [List.take_append_drop] at h
 omega
theorem totS_mem {l : List ByteArray} {x : ByteArray} (h : x ∈ l) : x.size + 1 ≤ totS l := by
 obtain ⟨a, b, rfl⟩ := List.append_of_mem h
 simp [totS]
 omega
theorem totS_len (l : List ByteArray) : l.length ≤ totS l := by
 induction l with
 | nil => simp
 | cons x t ih =>
  have h2 : totS (x :: t) = (x.size + 1) + totS t := by simp [totS]
  rw [List.length_cons, h2]
  omega
def PtPost (o : Option (List UInt8)) (w : World) (e : Ending) (w' : World) : Prop := e = .returned (.tuple #[.string ⟨(o.getD []).toArray⟩, .int .i64 (if o.isSome then 0 else 40)]) ∧ Below w.heap.size w w'
theorem neN (x c : UInt8) (h : ¬ x = c) : ¬ ((x.toNat : Nat) : Int) = ((c.toNat : Nat) : Int) := fun e => h (UInt8.toNat_inj.1 (by omega))
theorem pc_get (A l : List ByteArray) (j : Nat) (hA : A.length = j) (hj : j < l.length) : ((A ++ l.drop j).map Value.string).toArray[j]? = some (.string l[j]) := by
 rw [List.getElem?_toArray, List.getElem?_map, List.getElem?_append_right (by omega), hA, Nat.sub_self, List.getElem?_drop, Nat.add_zero, List.getElem?_eq_getElem hj]
 rfl
theorem pc_cut (l : List ByteArray) (j : Nat) (hj : j < l.length) : dat l = dat (l.take j) ++ ((l[j]).data.toList :: dat (l.drop (j + 1))) := by
 have h : l.take j ++ l[j] :: l.drop (j + 1) = l := by rw [← List.drop_eq_getElem_cons hj, List.take_append_drop]
 have h2 := congrArg dat h
 rw [← h2]
 simp only [dat, List.map_append, List.map_cons]
theorem pc_take (l : List ByteArray) (j : Nat) (hj : j < l.length) : dat (l.take (j + 1)) = dat (l.take j) ++ [(l[j]).data.toList] := by
 rw [List.take_succ_eq_append_getElem hj]
 simp only [dat, List.map_append, List.map_cons, List.map_nil]
theorem pc_set (A l : List ByteArray) (j : Nat) (hA : A.length = j) (hj : j < l.length) (u : ByteArray) : ((A ++ l.drop j).map Value.string).toArray.setIfInBounds j (.string u) = (((A ++ [u]) ++ l.drop (j + 1)).map Value.string).toArray := by
 rw [List.drop_eq_getElem_cons hj, List.setIfInBounds_toArray, List.map_append, List.set_append_right _ _ (by rw [List.length_map]; omega), List.length_map, hA, Nat.sub_self]
 simp only [List.map_append, List.map_cons, List.map_nil, List.set_cons_zero, List.append_assoc, List.cons_append, List.nil_append]
def PaPost (o : Option (List (List UInt8))) (w : World) (e : Ending) (w' : World) : Prop := ∃ (v : Value) (l : List ByteArray), e = .returned (.tuple #[v, .int .i64 (if o.isSome then 0 else 40)]) ∧ dat l = o.getD [] ∧ LiesS w' v l ∧ Below w.heap.size w w'
theorem unes_app : ∀ (a b : List (List UInt8)), unes (a ++ b) = (unes a).bind (fun x => (unes b).map (x ++ ·))
 | [], b => by simp [unes]
 | x :: t, b => by
  rw [List.cons_append, unes, unes, unes_app t b]
  cases une x with
  | none => rfl
  | some u =>
   cases unes t with
   | none => rfl
   | some z =>
    cases unes b <;> simp
theorem spl_len (c : UInt8) : ∀ s : List UInt8, (spl c s).length ≤ s.length + 1
 | [] => by simp [spl]
 | x :: t => by
  have ih := spl_len c t
  rw [spl]
  split
  ·simp; omega
  ·split
   ·rename_i h r e; rw [e] at ih; simp at ih ⊢; omega
   ·simp
theorem spl_mem (c : UInt8) : ∀ s : List UInt8, ∀ x ∈ spl c s, x.length ≤ s.length
 | [], x, h => by
  simp [spl] at h
  simp [h]
 | y :: t, x, h => by
  have ih := spl_mem c t
  rw [spl] at h
  split at h
  ·rcases List.mem_cons.1 h with rfl | h
   ·simp
   ·have := ih x h; simp; omega
  ·split at h
   ·rename_i g r e
    rcases List.mem_cons.1 h with rfl | h
    ·have := ih g (by rw [e]; simp); simp; omega
    ·have := ih x (by rw [e]; simp [h]); simp; omega
   ·simp at h; subst h; simp
set_option maxHeartbeats 8000000 in
set_option maxRecDepth 100000 in
theorem pparse_any (p : ByteArray) (w : World) (hp : p.size ≤ 3900000) (tp : Tp w) : Calls Tryz.prog 30 #[.string p] w (PaPost (parF p.data.toList) w) := by
 have hz2 := tp.z
 have hpl := toList_size p
 obtain ⟨O, hO⟩ : ∃ O, parF p.data.toList = O := ⟨_, rfl⟩
 rw [hO]
 cases hd : p.data.toList with
 | nil =>
  rw [hd] at hO hpl
  obtain rfl : p = ⟨#[]⟩ := by
   rcases p with ⟨⟨q⟩⟩
   simp only at hd
   rw [hd]
  have HR : Hid (O = some []) := by show _ = _; rw [← hO, parF]
  clear hO
  go_enter Tryz.func30, Tryz.ntmps30
  go_wp2_with fail
  go_ret2
  exact ⟨_, [], by rw [HR.out]; rfl, by rw [HR.out]; rfl, liesS_nil w, Below.refl _ _⟩
 | cons x q =>
  have CV := hmk (valid_any p w (by omega) tp.u)
  have HT : Hid (∀ W, Below w.heap.size w W → Tp W) := fun W hb => tp.below hb hz2
  rw [hd] at hO hpl CV
  have HO : Hid ((if x = 47 ∧ validD (x :: q) = true then unes (spl 47 q) else none) = O) := by show _ = _; rw [← hO, parF]
  have hne : p.toList ≠ [] := by rw [ByteArray.toList_eq, hd]; simp
  have e0 : (p.toList == []) = false := by simpa using hne
  have hs0 : 0 < p.size := by rw [← hpl]; simp
  have hx0 : p[0] = x := by
   have : p.data.toList[0]? = some x := by rw [hd]; rfl
   rw [Array.getElem?_toList] at this
   exact Option.some.inj ((Array.getElem?_eq_getElem (xs := p.data) hs0).symm.trans this)
  have hx0n : (p[0]).toNat = x.toNat := by rw [hx0]
  clear hx0 hO tp hne
  by_cases h47 : x = 47
  ·subst h47
   have hx47 : ((p[0]).toNat : Int) = 47 := by rw [hx0n]; rfl
   have hxe := ext_one p 47 q hd
   have hxl := toList_size (p.extract 1 p.size)
   rw [hxe] at hxl
   have HX : Hid ((p.extract 1 p.size).data.toList = q ∧ (p.extract 1 p.size).size = q.length) := ⟨hxe, hxl.symm⟩
   have hql : q.length + 1 = p.size := by rw [← hpl]; simp
   have y1 : (1 : Int) ≤ p.size := by omega
   have y1n : 1 ≤ p.size := by omega
   have HQ : Hid (q.length ≤ 3900000) := by show _ ≤ _; omega
   clear hxe hxl hpl hx0n hql
   generalize hV : validD (47 :: q) = V at HO CV
   clear hV
   go_enter Tryz.func30, Tryz.ntmps30
   go_wp2_with fail
   refine CV.out.mono ?_
   rintro e w1 ⟨rfl, b1⟩
   have hz1 := b1.size
   cases V with
   | false =>
    have HR : Hid (O = none) := by show _ = _; rw [← HO.out, if_neg (fun h => by cases h.2)]
    go_wp2_with fail
    go_ret2
    exact ⟨_, [], by rw [HR.out]; rfl, by rw [HR.out]; rfl, liesS_nil _, b1⟩
   | true =>
    have HR : Hid (unes (spl 47 q) = O) := by show _ = _; rw [← HO.out, if_pos (by simp)]
    have CS := hmk (split_any (p.extract 1 p.size) w1 (by rw [HX.out.2]; have := HQ.out; omega) (HT.out w1 b1).m)
    rw [HX.out.1] at CS
    clear CV HO HX
    go_wp2_with fail
    refine CS.out.mono ?_
    rintro e w2 ⟨l, hdl, rfl, rfl⟩
    have hlen : l.length ≤ 3900001 := by
     have h1 := spl_len 47 q
     have h2 := congrArg List.length hdl
     rw [List.length_map] at h2
     have := HQ.out
     omega
    have HLm : Hid (∀ j (h : j < l.length), (l[j]).size ≤ 3900000) := fun j h => by
     have h1 : (l[j]).data.toList ∈ spl 47 q := by rw [← hdl]; exact List.mem_map.2 ⟨l[j], List.getElem_mem h, rfl⟩
     have h2 := spl_mem 47 q _ h1
     rw [toList_size] at h2
     have := HQ.out
     omega
    have HO2 : Hid (unes (dat l) = O) := by show _ = _; rw [← HR.out, ← hdl]; rfl
    have B2 : Below w1.heap.size w1 (w1.alloc (.cells (l.map Value.string).toArray 9)) := (Below.refl _ _).alloc (Nat.le_refl _) _
    have hblk0 : (w1.alloc (.cells (l.map Value.string).toArray 9)).heap[w1.heap.size]? = some (.cells (l.map Value.string).toArray 9) := alloc_last w1 _
    have hz2' := alloc_size w1 (.cells (l.map Value.string).toArray 9)
    clear CS hdl HR
    go_wp2_with fail
    generalize (w1.alloc (.cells (l.map Value.string).toArray 9)) = w2 at *
    go_loopw [24] (fun e wr => ∃ (j : Nat) (A : List ByteArray), j ≤ l.length ∧ e = .int .i64 (j : Int) ∧ A.length = j ∧ Hid (unes (dat (l.take j)) = some (dat A)) ∧ Hid (wr.heap[w1.heap.size]? = some (.cells ((A ++ l.drop j).map Value.string).toArray 9)) ∧ Hid (Below w1.heap.size w1 wr)) (fun e _ => l.length - (RowKit.intOf e).toNat)
    case atStart => exact ⟨0, [], by omega, rfl, rfl, by show _ = _; rfl, by show _ = _; exact hblk0, B2⟩
    case round =>
     clear hblk0 B2
     obtain ⟨j, A, hj, rfl, hA, HU, HK, HB⟩ := hrel
     have hzr := HB.out.size
     have hgr : w1.heap.size < wr.heap.size := by
      rcases Nat.lt_or_ge w1.heap.size wr.heap.size with h | h
      ·exact h
      ·have := HK.out; rw [Array.getElem?_eq_none h] at this; cases this
     by_cases hjl : j < l.length
     ·have y3 : (j : Int) < l.length := by omega
      have hget := pc_get A l j hA hjl
      have c1 : wr.cell? ⟨w1.heap.size, j, none⟩ = some (.string l[j]) := by rw [cell_of_block HK.out, hget]
      have BW := HT.out wr (b1.trans (HB.out.mono hz1))
      have CU := hmk (unesc_any l[j] wr (by have := HLm.out j hjl; omega) BW)
      have HN : Hid (une (l[j]).data.toList = none → O = none) := fun h => by
       rw [← HO2.out]
       rw [pc_cut l j hjl, unes_app, HU.out, unes, h]
       rfl
      have HS : Hid (∀ u, une (l[j]).data.toList = some u → unes (dat (l.take (j + 1))) = some (dat (A ++ [⟨u.toArray⟩]))) := fun u h => by
       rw [pc_take l j hjl, unes_app, HU.out, unes, h, unes]
       simp [dat]
      have HD : Hid (∀ u : ByteArray, ((A ++ l.drop j).map Value.string).toArray.setIfInBounds j (.string u) = (((A ++ [u]) ++ l.drop (j + 1)).map Value.string).toArray) := fun u => pc_set A l j hA hjl u
      generalize l[j] = xj at *
      generalize hu : une xj.data.toList = U at CU HN HS
      clear hu hget
      go_wp2_with fail
      refine CU.out.mono ?_
      rintro e w3 ⟨rfl, b3⟩
      have hz3 := b3.size
      have B3 := HB.out.trans (b3.mono (by omega))
      have K3 := (b3.block w1.heap.size hgr).trans HK.out
      cases U with
      | none =>
       have HR : Hid (O = none) := HN.out rfl
       go_wp2_with fail
       go_ret2
       exact ⟨_, [], by rw [HR.out]; rfl, by rw [HR.out]; rfl, liesS_nil _, b1.trans (B3.mono hz1)⟩
      | some u =>
       have c3 : w3.cell? ⟨w1.heap.size, j, none⟩ = some (.string xj) := (b3.cell (p := ⟨w1.heap.size, j, none⟩) hgr).trans c1
       have f3 : w3.frozen? ⟨w1.heap.size, j, none⟩ = false := frozen_of_block K3 j
       have HK3 : Hid (w3.heap[w1.heap.size]? = some (.cells ((A ++ l.drop j).map Value.string).toArray 9)) := K3
       have HU' := HS.out u rfl
       have HUU : Hid (unes (dat (l.take (j + 1))) = some (dat (A ++ [⟨u.toArray⟩]))) := HU'
       clear K3 HU' HS HN
       simp only [Option.getD_some, Option.isSome_some]
       have HE : Hid ((⟨u.toArray⟩ : ByteArray) = ⟨u.toArray⟩) := rfl
       generalize (⟨u.toArray⟩ : ByteArray) = qu at *
       go_wp2_with fail
       go_roundw
       case rel => exact ⟨j + 1, A ++ [qu], by omega, by go_num, by simp [hA], HUU, by (show _ = _; rw [set_block HK3.out, HD.out]), B3.setCell (Nat.le_refl _) _⟩
       case measure => simp [RowKit.intOf]; omega
     ·obtain rfl : j = l.length := by omega
      have y3 : ¬ (l.length : Int) < l.length := by omega
      have HR : Hid (O = some (dat A)) := by show _ = _; rw [← HO2.out]; have := HU.out; rw [List.take_length] at this; exact this
      have HK' : Hid (∀ i (h : i < A.length), wr.cell? ⟨w1.heap.size, 0 + i, none⟩ = some (.string A[i])) := fun i h => by
       rw [cell_of_block HK.out]
       simp [h, List.getElem?_append_left]
      go_wp2_with fail
      go_ret2
      refine ⟨.slice (some ⟨w1.heap.size, 0, none⟩) l.length l.length, A, by rw [HR.out]; rfl, by rw [HR.out]; rfl, ⟨⟨_, _, by rw [hA]⟩, fun _ => ⟨w1.heap.size, 0, _, by rw [hA], by rw [hA]; exact Nat.le_refl _, hgr, HK'.out⟩⟩, b1.trans (HB.out.mono hz1)⟩
  ·have HR : Hid (O = none) := by show _ = _; rw [← HO.out, if_neg (fun h => h47 h.1)]
   have hxi : ¬ ((p[0]).toNat : Int) = 47 := by rw [hx0n]; have := neN x 47 h47; simpa using this
   clear HO CV
   go_enter Tryz.func30, Tryz.ntmps30
   go_wp2_with fail
   go_ret2
   exact ⟨_, [], by rw [HR.out]; rfl, by rw [HR.out]; rfl, liesS_nil _, Below.refl _ _⟩
end Go.Proofs.YtgnofbigggmilaaGreatDoor
namespace Go.Proofs.YtgnofbigggmilaaGreatDoor
open Go.Lib
theorem pu_snoc : ∀ (a : List UInt8) (acc u : Nat) (c : UInt8), parseUint10 acc a = .ok u → 48 ≤ c.toNat → c.toNat ≤ 57 → u < 1844674407370955162 → u * 10 + (c.toNat - 48) < 18446744073709551616 → parseUint10 acc (a ++ [c]) = .ok (u * 10 + (c.toNat - 48))
 | [], acc, u, c, h, h1, h2, h3, h4 => by
  simp only [parseUint10] at h
  injection h with h
  subst h
  simp only [List.nil_append, parseUint10]
  rw [if_pos ⟨h1, h2⟩, if_neg (by omega), if_neg (by omega)]
 | x :: t, acc, u, c, h, h1, h2, h3, h4 => by
  simp only [parseUint10, List.cons_append] at h ⊢
  split at h
  ·rename_i hx
   rw [if_pos hx]
   split at h
   ·cases h
   ·rename_i hy
    rw [if_neg hy]
    split at h
    ·cases h
    ·rename_i hz
     rw [if_neg hz]
     exact pu_snoc t _ u c h h1 h2 h3 h4
  ·cases h
theorem pu_dec (u : Nat) : u < 9223372036854775808 → parseUint10 0 (decDigits u) = .ok u := by
 induction u using Nat.strongRecOn with
 | ind u ih =>
 intro hu
 by_cases h : u < 10
 ·rw [decDigits, dif_pos h]
  have e : (UInt8.ofNat (48 + u)).toNat = 48 + u := by rw [UInt8.toNat_ofNat']; omega
  simp only [parseUint10, e]
  rw [if_pos (by omega), if_neg (by omega), if_neg (by omega)]
  congr 1
  omega
 ·rw [decDigits, dif_neg h]
  have e : (UInt8.ofNat (48 + u % 10)).toNat = 48 + u % 10 := by rw [UInt8.toNat_ofNat']; omega
  have := pu_snoc _ 0 (u / 10) (UInt8.ofNat (48 + u % 10)) (ih (u / 10) (by omega) (by omega)) (by omega) (by omega) (by omega) (by omega)
  rw [this, e]
  congr 1
  omega
theorem dec_digit (u : Nat) : ∀ b ∈ decDigits u, 48 ≤ b.toNat ∧ b.toNat ≤ 57 := by
 induction u using Nat.strongRecOn with
 | ind u ih =>
 intro b hb
 rw [decDigits] at hb
 split at hb
 ·rw [List.mem_singleton] at hb
  rw [hb, UInt8.toNat_ofNat']
  omega
 ·rcases List.mem_append.1 hb with hb | hb
  ·exact ih (u / 10) (by omega) b hb
  ·rw [List.mem_singleton] at hb
   rw [hb, UInt8.toNat_ofNat']
   omega
theorem dec_ne (u : Nat) : decDigits u ≠ [] := by
 rw [decDigits]
 split <;> simp
theorem atoi_dec (u : Nat) (hu : u < 9223372036854775808) : atoiAll (decDigits u) = .ok (u : Int) := by
 have h1 := pu_dec u hu
 have h2 := dec_digit u
 have h3 := dec_ne u
 generalize decDigits u = l at *
 cases l with
 | nil => exact absurd rfl h3
 | cons c r =>
  have hc := h2 c (List.mem_cons_self ..)
  unfold atoiAll
  simp only
  rw [if_neg (by omega), parseMag, if_neg (by simp), h1]
  simp only
  rw [if_neg (by omega), if_neg (by omega), if_neg (by omega)]
theorem dec_inj {a b : Nat} (ha : a < 9223372036854775808) (hb : b < 9223372036854775808) (h : decDigits a = decDigits b) : a = b := by
 have h1 := atoi_dec a ha
 have h2 := atoi_dec b hb
 rw [h, h2] at h1
 injection h1 with h1
 omega
def idxF (tok : List UInt8) (n : Nat) : Option Nat := (List.range n).find? (fun i => decDigits i == tok)
theorem idxF_some {tok : List UInt8} {n i : Nat} (hn : n < 9223372036854775808) (hi : i < n) (h : decDigits i = tok) : idxF tok n = some i := by
 cases hf : idxF tok n with
 | none =>
  rw [idxF, List.find?_eq_none] at hf
  exact absurd (by simp [h]) (hf i (List.mem_range.2 hi))
 | some j =>
  rw [idxF] at hf
  have h1 := List.find?_some hf
  have h2 := List.mem_of_find?_eq_some hf
  rw [List.mem_range] at h2
  have h3 : decDigits j = tok := by simpa using h1
  rw [dec_inj (by omega) (by omega) (h3.trans h.symm)]
theorem idxF_none {tok : List UInt8} {n : Nat} (h : ∀ i, i < n → decDigits i ≠ tok) : idxF tok n = none := by
 rw [idxF, List.find?_eq_none]
 intro i hi
 rw [List.mem_range] at hi
 simpa using h i hi
theorem idxF_prog (tok : List UInt8) (n : Nat) (hn : n < 9223372036854775808) : idxF tok n = (match atoiAll tok with
 | .ok v => if 0 ≤ v ∧ v < n ∧ itoa v = tok then some v.toNat else none
 | _ => none) := by
 cases ha : atoiAll tok with
 | ok v =>
  simp only
  split
  ·rename_i h
   obtain ⟨u, rfl⟩ : ∃ u : Nat, v = u := ⟨v.toNat, by omega⟩
   have h3 := h.2.2
   rw [itoa, if_neg (by omega)] at h3
   simp only [Int.toNat_natCast] at h3 ⊢
   exact idxF_some hn (by omega) h3
  ·rename_i h
   refine idxF_none fun i hi e => h ?_
   have h1 := atoi_dec i (by omega)
   rw [e, ha] at h1
   injection h1 with h1
   subst h1
   refine ⟨by omega, by omega, ?_⟩
   rw [itoa, if_neg (by omega)]
   simpa using e
 | «syntax» =>
  refine idxF_none fun i hi e => ?_
  have h1 := atoi_dec i (by omega)
  rw [e, ha] at h1
  cases h1
 | range =>
  refine idxF_none fun i hi e => ?_
  have h1 := atoi_dec i (by omega)
  rw [e, ha] at h1
  cases h1
end Go.Proofs.YtgnofbigggmilaaGreatDoor
namespace Go.Proofs.YtgnofbigggmilaaGreatDoor
open Go.RowKit Go.Lib
def ErrAt (g : Nat) (w : World) : Prop := ∃ ev, w.cell? ⟨g, 0, none⟩ = some ev ∧ (ev = .nilIface ∨ ∃ te pe, ev = .iface te pe)
def PowTab (w : World) : Prop := TabIs Tryz.prog w "internal/strconv.uint64pow10" .u64 pow10Tab
theorem PowTab.below {w w' : World} {B : Nat} (h : PowTab w) (hb : Below B w w') (hB : 7 < B) : PowTab w' := by
 unfold PowTab TabIs World.var? at *
 have hg : Tryz.prog.globalNamed "internal/strconv.uint64pow10" = some 5 := by kernel_rfl
 simp only [hg, Option.bind_some] at h ⊢
 rw [hb.block 5 (by omega)]
 exact h
structure Tg (w : World) : Prop where
 t : Tp w
 y : ErrAt 3 w
 r : ErrAt 4 w
 p : PowTab w
 z : 7 < w.heap.size
theorem ErrAt.below {g : Nat} {w w' : World} {B : Nat} (h : ErrAt g w) (hb : Below B w w') (hB : g < B) : ErrAt g w' := by
 obtain ⟨ev, h1, h2⟩ := h
 exact ⟨ev, (hb.cell (p := ⟨g, 0, none⟩) hB).trans h1, h2⟩
theorem Tg.below {w w' : World} {B : Nat} (h : Tg w) (hb : Below B w w') (hB : 7 < B) : Tg w' :=
 ⟨h.t.below hb (by omega), h.y.below hb (by omega), h.r.below hb (by omega), h.p.below hb hB, Nat.lt_of_lt_of_le h.z hb.size⟩
theorem atoi_any (s : ByteArray) (w : World) (hs : s.size ≤ 281474976710656) (tg : Tg w) :
 Calls Tryz.prog 88 #[.string s] w fun e w' => (∃ n ev, e = .returned (.tuple #[.int .i64 n, ev]) ∧ ((∃ v, atoiAll s.data.toList = .ok v ∧ n = v ∧ ev = .nilIface) ∨ ((∀ v, atoiAll s.data.toList ≠ .ok v) ∧ ∃ N, ev = .iface 143 (.pointer (some ⟨N, 0, none⟩))))) ∧ Below w.heap.size w w' := by
 cases ha : atoiAll s.data.toList with
 | ok v =>
  refine (Any.strconv_Atoi_ok Tryz.lays172 s (by omega) v ha w).mono ?_
  rintro e w' ⟨he, hw⟩
  refine ⟨⟨v, .nilIface, he, .inl ⟨v, rfl, rfl, rfl⟩⟩, ?_⟩
  rcases hw with rfl | ⟨t, rfl⟩
  ·exact Below.refl _ _
  ·exact Go.Joins.below_bytesWorld _ _ _ _ (Nat.le_refl _)
 | «syntax» =>
  obtain ⟨ev, h1, h2⟩ := tg.y
  refine (Any.strconv_Atoi_syntax Tryz.lays172 s hs ha ev w h1 h2).mono ?_
  rintro e w' ⟨N, he, _, _, hb⟩
  exact ⟨⟨_, _, he, .inr ⟨(fun v h => by cases h), N, rfl⟩⟩, hb⟩
 | range =>
  obtain ⟨ev, h1, h2⟩ := tg.r
  refine (Any.strconv_Atoi_range Tryz.lays172 s hs ha ev w h1 h2).mono ?_
  rintro e w' ⟨N, he, _, _, hb⟩
  exact ⟨⟨_, _, he, .inr ⟨(fun v h => by cases h), N, rfl⟩⟩, hb⟩
theorem itoa_any (n : Int) (h : -9223372036854775808 ≤ n ∧ n ≤ 9223372036854775807) (w : World) (tg : Tg w) :
 Calls Tryz.prog 79 #[.int .i64 n] w fun e w' => e = .returned (.string ⟨(itoa n).toArray⟩) ∧ Below w.heap.size w w' := by
 refine (Any.strconv_Itoa Tryz.lays171 n h.1 h.2 w tg.p).mono ?_
 rintro e w' ⟨he, k, os, rfl⟩
 exact ⟨he, below_grow _ _ (Nat.le_refl _) _ _⟩
def IxPost (o : Option Nat) (w : World) (e : Ending) (w' : World) : Prop := e = .returned (.tuple #[.int .i64 ((o.getD 0 : Nat) : Int), .bool o.isSome]) ∧ Below w.heap.size w w'
set_option maxHeartbeats 8000000 in
set_option maxRecDepth 100000 in
theorem index_any (s : ByteArray) (n : Nat) (w : World) (hs : s.size ≤ 281474976710656) (hn : n < 9223372036854775808) (tg : Tg w) : Calls Tryz.prog 68 #[.string s, .int .i64 (n : Int)] w (IxPost (idxF s.data.toList n) w) := by
 have CA := hmk (atoi_any s w hs tg)
 have HI := hmk (idxF_prog s.data.toList n hn)
 have HT : Hid (∀ W, Below w.heap.size w W → Tg W) := fun W hb => tg.below hb tg.z
 generalize idxF s.data.toList n = O at *
 clear tg
 go_enter Tryz.func68, Tryz.ntmps68
 go_wp2_with fail
 refine CA.out.mono ?_
 rintro e w1 ⟨⟨m, ev, rfl, hcase⟩, b1⟩
 rcases hcase with ⟨v, ha, rfl, rfl⟩ | ⟨ha, N, rfl⟩
 ·rw [ha] at HI
  by_cases h0 : m < 0
  ·have HR : Hid (O = none) := by show _ = _; rw [HI.out]; simp only; rw [if_neg (fun h => by omega)]
   go_wp2_with fail
   go_ret2
   exact ⟨by rw [HR.out]; rfl, b1⟩
  ·by_cases h1 : (n : Int) ≤ m
   ·have HR : Hid (O = none) := by show _ = _; rw [HI.out]; simp only; rw [if_neg (fun h => by omega)]
    have y1 : ¬ m < 0 := h0
    have y2 : m ≥ n := h1
    go_wp2_with fail
    go_ret2
    exact ⟨by rw [HR.out]; rfl, b1⟩
   ·obtain ⟨u, rfl⟩ : ∃ u : Nat, m = u := ⟨m.toNat, by omega⟩
    have y1 : ¬ (u : Int) < 0 := h0
    have y2 : ¬ (u : Int) ≥ n := by omega
    have y3 : (u : Int) < n := by omega
    have CI := hmk (itoa_any (u : Int) (by omega) w1 (HT.out w1 b1))
    have hz1 := b1.size
    by_cases hq : itoa (u : Int) = s.data.toList
    ·have HR : Hid (O = some u) := by show _ = _; rw [HI.out]; simp only; rw [if_pos ⟨by omega, by omega, hq⟩]; simp
     have eq : (⟨(itoa (u : Int)).toArray⟩ : ByteArray) = s := by rw [hq]
     rw [eq] at CI
     have yq : (s.toList != s.toList) = false := by simp
     go_wp2_with fail
     refine CI.out.mono ?_
     rintro e w2 ⟨rfl, b2⟩
     go_wp2_with fail
     go_ret2
     exact ⟨by rw [HR.out]; rfl, b1.trans (b2.mono hz1)⟩
    ·have HR : Hid (O = none) := by show _ = _; rw [HI.out]; simp only; rw [if_neg (fun h => hq h.2.2)]
     have yq : ((⟨(itoa (u : Int)).toArray⟩ : ByteArray).toList == s.toList) = false := by
      rw [beq_eq_false_iff_ne, ByteArray.toList_eq, ByteArray.toList_eq]; exact hq
     generalize (⟨(itoa (u : Int)).toArray⟩ : ByteArray) = qi at *
     have yq2 : (qi.toList != s.toList) = true := by simp [bne, yq]
     have yq3 : ¬ qi.toList = s.toList := by simpa using yq
     go_wp2_with fail
     refine CI.out.mono ?_
     rintro e w2 ⟨rfl, b2⟩
     go_wp2_with fail
     go_ret2
     exact ⟨by rw [HR.out]; rfl, b1.trans (b2.mono hz1)⟩
 ·have HR : Hid (O = none) := by
   show _ = _
   rw [HI.out]
   cases hx : atoiAll s.data.toList with
   | ok v => exact absurd hx (ha v)
   | «syntax» => rfl
   | range => rfl
  go_wp2_with fail
  go_ret2
  exact ⟨by rw [HR.out]; rfl, b1⟩
end Go.Proofs.YtgnofbigggmilaaGreatDoor
