/- joined: PtrA PtrB PtrC -/
import Derived.Test.YtnakligbogkmbaaGreatDoorG15
set_option linter.unusedSimpArgs false
set_option linter.unusedVariables false
namespace Go.Proofs.YtnakligbogkmbaaGreatDoor
open Go.RowKit Go.Lib
structure Tp (w : World) : Prop where
 u : Utf8Tabs 0 1 w
 m : MaxIs w
 z : 2 < w.heap.size
theorem Tp.below {w w' : World} {B : Nat} (h : Tp w) (hb : Below B w w') (hB : 2 < B) : Tp w' := by
 obtain ⟨m, hm⟩ := h.m
 exact ⟨utab_below h.u hb (by omega), ⟨m, (hb.cell (p := ⟨2, 0, none⟩) hB).trans hm⟩, Nat.lt_of_lt_of_le h.z hb.size⟩
theorem hmk {p : Prop} (h : p) : Hid p := h
theorem bld_below {B b : Nat} {bs : List Value} {w w' : World} (h : IsBuilderF 97 5 B b bs w) (hb : Below w.heap.size w w') : IsBuilderF 97 5 B b bs w' := by
 have key : ∀ p, BuilderAtF 97 5 B b p bs w → BuilderAtF 97 5 B b p bs w' := fun p h => by
  have hlt := h.lt
  obtain ⟨h1, v, h2, h3, h4⟩ := h
  exact ⟨h1, v, (hb.block b hlt).trans h2, h3.kept (grown_of_below hb) (by cases v.ownBlock <;> simp), h4⟩
 exact h.imp (key _) (key _)
theorem bld_new (w : World) : IsBuilderF 97 5 w.heap.size w.heap.size (byteCells []) (w.alloc (.cells #[.pointer none, .slice none 0 0] 97)) :=
 .inl ⟨Nat.le_refl _, .slice none 0 0, alloc_last w _, World.ownsRowF_nil _ _ _ _, by simp [Value.ownBlock]⟩
def szOf : Value → Nat
 | .string s => s.size
 | _ => 0
theorem bytes_app (a b : List UInt8) : byteCells a ++ byteCells b = byteCells (a ++ b) := by simp [byteCells]
theorem writeS (B b : Nat) (l : List UInt8) (s : ByteArray) (w : World) (h : IsBuilderF 97 5 B b (byteCells l) w) (hlen : l.length + s.size ≤ 140737488355328) (hBw : B ≤ w.heap.size) :
 Calls Tryz.prog 70 #[.pointer (some ⟨b, 0, none⟩), .string s] w fun e w' => e = .returned (.tuple #[.int .i64 s.size, .nilIface]) ∧ IsBuilderF 97 5 B b (byteCells (l ++ s.data.toList)) w' ∧ Below B w w' := by
 refine (Tryz.WriteString_k B b (byteCells l) s w h (by rw [byteCells_length]; exact hlen) hBw).mono ?_
 rintro e w' ⟨he, h1, h2, _⟩
 refine ⟨he, .inr ?_, h2⟩
 rw [← bytes_app]
 exact h1
theorem writeB (B b : Nat) (l : List UInt8) (c : UInt8) (w : World) (h : IsBuilderF 97 5 B b (byteCells l) w) (hlen : l.length + 1 ≤ 140737488355328) (hBw : B ≤ w.heap.size) :
 Calls Tryz.prog 73 #[.pointer (some ⟨b, 0, none⟩), .int .u8 (c.toNat : Int)] w fun e w' => e = .returned .nilIface ∧ IsBuilderF 97 5 B b (byteCells (l ++ [c])) w' ∧ Below B w w' := by
 refine (Tryz.WriteByte_k B b (byteCells l) (c.toNat : Int) w h (by rw [byteCells_length]; exact hlen) hBw).mono ?_
 rintro e w' ⟨he, h1, h2, _⟩
 refine ⟨he, .inr ?_, h2⟩
 rw [← bytes_app]
 exact h1
theorem cut_miss {s : List UInt8} (h : index s [126] = -1) : cut s [126] = (s, [], false) := by
 rw [cut, if_neg (by omega)]
theorem cut_hit {a b : List UInt8} (h : index (a ++ 126 :: b) [126] = (a.length : Int)) : cut (a ++ 126 :: b) [126] = (a, b, true) := by
 rw [cut, if_pos (by omega), h]
 simp only [Int.toNat_natCast, List.length_cons, List.length_nil, Nat.zero_add, take_sep, drop_sep]
theorem ext_one (q : ByteArray) (y : UInt8) (u : List UInt8) (h : q.data.toList = y :: u) : (q.extract 1 q.size).data.toList = u := by
 have hs : q.size = u.length + 1 := by
  have : q.data.toList.length = q.size := by rw [Array.length_toList]; rfl
  rw [h] at this
  simpa using this.symm
 rw [ByteArray.data_extract, Array.toList_extract, List.extract_eq_take_drop, h, hs]
 simp
theorem pre_one (y c : UInt8) (u : List UInt8) : hasPrefix (y :: u) ((⟨#[c]⟩ : ByteArray).data.toList) = decide (c = y) := by
 show [c].isPrefixOf (y :: u) = _
 by_cases h : c = y
 ·subst h; simp [List.isPrefixOf]
 ·simp [List.isPrefixOf, h]
def UnPost (o : Option (List UInt8)) (w : World) (e : Ending) (w' : World) : Prop := e = .returned (.tuple #[.string ⟨(o.getD []).toArray⟩, .bool o.isSome]) ∧ Below w.heap.size w w'
theorem ba_size (l : List UInt8) : (⟨l.toArray⟩ : ByteArray).size = l.length := by show l.toArray.size = _; rw [List.size_toArray]
theorem toList_size (s : ByteArray) : s.data.toList.length = s.size := by rw [Array.length_toList]; rfl
set_option maxHeartbeats 8000000 in
set_option maxRecDepth 100000 in
theorem unesc_any (s : ByteArray) (w : World) (hs : s.size ≤ 2097152) (tp : Tp w) : Calls Tryz.prog 50 #[.string s] w (UnPost (une s.data.toList) w) := by
 have HO : Hid (une s.data.toList = une s.data.toList) := rfl
 have hb0 := bld_new w
 have hz0 := aSz w (.cells #[.pointer none, .slice none 0 0] 97)
 have B0 : Below w.heap.size w (w.alloc (.cells #[.pointer none, .slice none 0 0] 97)) := (Below.refl _ _).alloc (Nat.le_refl _) _
 have hz2 := tp.z
 have HT : Hid (∀ W, Below w.heap.size w W → Tp W) := fun W hb => tp.below hb hz2
 obtain ⟨O, hO⟩ : ∃ O, une s.data.toList = O := ⟨_, rfl⟩
 have HU0 : Hid (O = (une s.data.toList).map ([] ++ ·)) := by show _ = _; rw [hO]; simp
 rw [hO]
 clear hO HO tp
 go_enter Tryz.func50, Tryz.ntmps50
 go_wp2_with fail
 go_loopw [0] (fun e0 wr => ∃ (r : ByteArray) (out : List UInt8), e0 = .string r ∧ r.size + out.length ≤ s.size ∧ IsBuilderF 97 5 w.heap.size w.heap.size (byteCells out) wr ∧ Hid (O = (une r.data.toList).map (out ++ ·)) ∧ Hid (Below w.heap.size w wr)) (fun e0 _ => szOf e0)
 case atStart => exact ⟨s, [], rfl, by simp, hb0, HU0, B0⟩
 case round =>
  clear hb0 B0 HU0
  obtain ⟨r, out, rfl, hsz, hb, HU, HB⟩ := hrel
  have hzr := HB.out.size
  have hrl := toList_size r
  have C := hmk (cut_any r wr (by omega) (HT.out wr HB.out).m)
  rcases index_dec 126 r.data.toList with ⟨h1, h2⟩ | ⟨a, b, he, h2, h3⟩
  ·rw [cut_miss h1] at C
   have HR : Hid (O = some (out ++ r.data.toList)) := by show _ = _; rw [HU.out, une_all _ h2]; rfl
   have er : (⟨r.data.toList.toArray⟩ : ByteArray) = r := by rcases r with ⟨⟨l⟩⟩; rfl
   simp only [er] at C
   clear HU
   go_wp2_with fail
   refine C.out.mono ?_
   rintro e w1 ⟨rfl, b1⟩
   have hz1 := b1.size
   have B1 := HB.out.trans (b1.mono (by omega))
   have hb1 := bld_below hb b1
   clear hb C
   go_wp2_with fail
   refine (writeS _ _ out r w1 hb1 (by omega) (by omega)).mono ?_
   rintro e w2 ⟨rfl, hb2, b2⟩
   have B2 := B1.trans b2
   have hz22 := B2.size
   go_wp2_with fail
   refine (Tryz.String_any_k _ _ (out ++ r.data.toList) w2 hb2 (by omega)).mono ?_
   rintro e w3 ⟨rfl, _, b3, _⟩
   have B3 := B2.trans b3
   go_wp2_with fail
   go_ret2
   exact ⟨by rw [HR.out]; rfl, B3⟩
  ·rw [he, cut_hit (by rw [← he]; exact h3)] at C
   have HU2 : Hid (O = (une (126 :: b)).map ((out ++ a) ++ ·)) := by
    show _ = _
    rw [HU.out, he, une_pre a _ h2, Option.map_map]
    congr 1
    funext x
    simp
   have hlen : r.size = a.length + 1 + b.length := by rw [← hrl, he]; simp; omega
   have za := ba_size a
   have zb := ba_size b
   have Da : Hid ((⟨a.toArray⟩ : ByteArray).data.toList = a) := rfl
   have Db : Hid ((⟨b.toArray⟩ : ByteArray).data.toList = b) := rfl
   simp only at C
   generalize (⟨a.toArray⟩ : ByteArray) = qa at *
   generalize (⟨b.toArray⟩ : ByteArray) = qb at *
   clear HU h3 he
   go_wp2_with fail
   refine C.out.mono ?_
   rintro e w1 ⟨rfl, b1⟩
   have hz1 := b1.size
   have B1 := HB.out.trans (b1.mono (by omega))
   have hb1 := bld_below hb b1
   clear hb C
   go_wp2_with fail
   refine (writeS _ _ out qa w1 hb1 (by omega) (by omega)).mono ?_
   rintro e w2 ⟨rfl, hb2, b2⟩
   rw [Da.out] at hb2
   have B2 := B1.trans b2
   have hz22 := B2.size
   have P0 := hmk (pre_any qb ⟨#[48]⟩ w2)
   rw [Db.out] at P0
   cases b with
   | nil =>
    have HR : Hid (O = none) := by show _ = _; rw [HU2.out, une_end]; rfl
    have P1 := hmk (pre_any qb ⟨#[49]⟩ w2)
    rw [Db.out] at P1
    have e0 : hasPrefix [] ((⟨#[48]⟩ : ByteArray).data.toList) = false := rfl
    have e1 : hasPrefix [] ((⟨#[49]⟩ : ByteArray).data.toList) = false := rfl
    rw [e0] at P0
    rw [e1] at P1
    go_wp2_with fail
    refine P0.out.mono ?_
    rintro e w3 ⟨rfl, rfl⟩
    go_wp2_with fail
    refine P1.out.mono ?_
    rintro e w4 ⟨rfl, rfl⟩
    go_wp2_with fail
    go_ret2
    exact ⟨by rw [HR.out]; rfl, B2⟩
   | cons y u =>
    have hx := ext_one qb y u Db.out
    have hxl := toList_size (qb.extract 1 qb.size)
    rw [hx] at hxl
    have HX : Hid ((qb.extract 1 qb.size).data.toList = u) := hx
    have HQ : Hid (qb.size = u.length + 1 ∧ u.length = (qb.extract 1 qb.size).size) := ⟨by rw [zb]; simp, hxl⟩
    have y1 : (1 : Int) ≤ qb.size := by rw [zb]; simp only [List.length_cons]; omega
    have y1n : 1 ≤ qb.size := by omega
    have HLN : Hid (r.size = a.length + 1 + (u.length + 1)) := by show _ = _; rw [hlen]; simp
    clear hx hxl zb hlen
    by_cases hy : y = 48
    ·subst hy
     have HR : Hid (O = (une u).map (((out ++ a) ++ [126]) ++ ·)) := by
      show _ = _
      rw [HU2.out, une_tilde, if_pos rfl, Option.map_map]
      congr 1
      funext x
      simp
     have e0 : hasPrefix (48 :: u) ((⟨#[48]⟩ : ByteArray).data.toList) = true := by rw [pre_one]; simp
     rw [e0] at P0
     go_wp2_with fail
     refine P0.out.mono ?_
     rintro e w3 ⟨rfl, rfl⟩
     go_wp2_with fail
     refine (writeB _ _ (out ++ a) 126 _ hb2 (by have qq := HLN.out; simp only [List.length_append]; omega) (by omega)).mono ?_
     rintro e w4 ⟨rfl, hb4, b4⟩
     have B4 := B2.trans b4
     go_wp2_with fail
     go_roundw
     case rel => exact ⟨qb.extract 1 qb.size, (out ++ a) ++ [126], rfl, by (have q := HQ.out; have qq := HLN.out; simp only [List.length_append, List.length_cons, List.length_nil]; omega), hb4, by rw [HX.out]; exact HR, B4⟩
     case measure => (have q := HQ.out; have qq := HLN.out; simp only [szOf]; omega)
    ·by_cases hy1 : y = 49
     ·subst hy1
      have HR : Hid (O = (une u).map (((out ++ a) ++ [47]) ++ ·)) := by
       show _ = _
       rw [HU2.out, une_tilde, if_neg (by decide), if_pos rfl, Option.map_map]
       congr 1
       funext x
       simp
      have P1 := hmk (pre_any qb ⟨#[49]⟩ w2)
      rw [Db.out] at P1
      have e0 : hasPrefix (49 :: u) ((⟨#[48]⟩ : ByteArray).data.toList) = false := by rw [pre_one]; decide
      have e1 : hasPrefix (49 :: u) ((⟨#[49]⟩ : ByteArray).data.toList) = true := by rw [pre_one]; simp
      rw [e0] at P0
      rw [e1] at P1
      go_wp2_with fail
      refine P0.out.mono ?_
      rintro e w3 ⟨rfl, rfl⟩
      go_wp2_with fail
      refine P1.out.mono ?_
      rintro e w4 ⟨rfl, rfl⟩
      go_wp2_with fail
      refine (writeB _ _ (out ++ a) 47 _ hb2 (by have qq := HLN.out; simp only [List.length_append]; omega) (by omega)).mono ?_
      rintro e w5 ⟨rfl, hb4, b4⟩
      have B4 := B2.trans b4
      go_wp2_with fail
      go_roundw
      case rel => exact ⟨qb.extract 1 qb.size, (out ++ a) ++ [47], rfl, by (have q := HQ.out; have qq := HLN.out; simp only [List.length_append, List.length_cons, List.length_nil]; omega), hb4, by rw [HX.out]; exact HR, B4⟩
      case measure => (have q := HQ.out; have qq := HLN.out; simp only [szOf]; omega)
     ·have HR : Hid (O = none) := by show _ = _; rw [HU2.out, une_tilde, if_neg hy, if_neg hy1]; rfl
      have P1 := hmk (pre_any qb ⟨#[49]⟩ w2)
      rw [Db.out] at P1
      have e0 : hasPrefix (y :: u) ((⟨#[48]⟩ : ByteArray).data.toList) = false := by rw [pre_one]; exact decide_eq_false (fun e => hy e.symm)
      have e1 : hasPrefix (y :: u) ((⟨#[49]⟩ : ByteArray).data.toList) = false := by rw [pre_one]; exact decide_eq_false (fun e => hy1 e.symm)
      rw [e0] at P0
      rw [e1] at P1
      go_wp2_with fail
      refine P0.out.mono ?_
      rintro e w3 ⟨rfl, rfl⟩
      go_wp2_with fail
      refine P1.out.mono ?_
      rintro e w4 ⟨rfl, rfl⟩
      go_wp2_with fail
      go_ret2
      exact ⟨by rw [HR.out]; rfl, B2⟩
def LiesS (w : World) (v : Value) (l : List ByteArray) : Prop :=
 (∃ a c, v = .slice a l.length c) ∧ (0 < l.length → ∃ g o c, v = .slice (some ⟨g, o, none⟩) l.length c ∧ l.length ≤ c ∧ g < w.heap.size ∧ ∀ j (h : j < l.length), w.cell? ⟨g, o + j, none⟩ = some (.string l[j]))
theorem LiesS.below {w w' : World} {v : Value} {l : List ByteArray} (h : LiesS w v l) (hb : Below w.heap.size w w') : LiesS w' v l :=
 ⟨h.1, fun h0 => by
  obtain ⟨g, o, c, e, hle, hg, hc⟩ := h.2 h0
  exact ⟨g, o, c, e, hle, Nat.lt_of_lt_of_le hg hb.size, fun j hj => (hb.cell (p := ⟨g, o + j, none⟩) hg).trans (hc j hj)⟩⟩
theorem liesS_nil (w : World) : LiesS w (.slice none 0 0) [] := ⟨⟨none, 0, rfl⟩, fun h => by simp at h⟩
theorem below_drewN (B : Nat) (w : World) (n : Nat) : Below B w (w.drewN n) := ⟨rfl, rfl, rfl, Nat.le_refl _, fun _ _ => rfl⟩
def dat (l : List ByteArray) : List (List UInt8) := l.map (fun s => s.data.toList)
theorem neN (x c : UInt8) (h : ¬ x = c) : ¬ ((x.toNat : Nat) : Int) = ((c.toNat : Nat) : Int) := fun e => h (UInt8.toNat_inj.1 (by omega))
theorem pc_get (A l : List ByteArray) (j : Nat) (hA : A.length = j) (hj : j < l.length) : ((A ++ l.drop j).map Value.string).toArray[j]? = some (.string l[j]) := by
 rw [List.getElem?_toArray, List.getElem?_map, List.getElem?_append_right (by omega), hA, Nat.sub_self, List.getElem?_drop, Nat.add_zero, List.getElem?_eq_getElem hj]
 rfl
theorem pc_cut (l : List ByteArray) (j : Nat) (hj : j < l.length) : dat l = dat (l.take j) ++ ((l[j]).data.toList :: dat (l.drop (j + 1))) := by
 have h : l.take j ++ l[j] :: l.drop (j + 1) = l := by rw [← List.drop_eq_getElem_cons hj, List.take_append_drop]
 have h2 := congrArg dat h
 rw [← h2]
 simp only [dat, List.map_append, List.map_cons]
theorem pc_take (l : List ByteArray) (j : Nat) (hj : j < l.length) : dat (l.take (j + 1)) = dat (l.take j) ++ [(l[j]).data.toList] := by
 rw [List.take_succ_eq_append_getElem hj]
 simp only [dat, List.map_append, List.map_cons, List.map_nil]
theorem pc_set (A l : List ByteArray) (j : Nat) (hA : A.length = j) (hj : j < l.length) (u : ByteArray) : ((A ++ l.drop j).map Value.string).toArray.setIfInBounds j (.string u) = (((A ++ [u]) ++ l.drop (j + 1)).map Value.string).toArray := by
 rw [List.drop_eq_getElem_cons hj, List.setIfInBounds_toArray, List.map_append, List.set_append_right _ _ (by rw [List.length_map]; omega), List.length_map, hA, Nat.sub_self]
 simp only [List.map_append, List.map_cons, List.map_nil, List.set_cons_zero, List.append_assoc, List.cons_append, List.nil_append]
def PaPost (o : Option (List (List UInt8))) (w : World) (e : Ending) (w' : World) : Prop := ∃ (v : Value) (l : List ByteArray), e = .returned (.tuple #[v, .int .i64 (if o.isSome then 0 else 40)]) ∧ dat l = o.getD [] ∧ LiesS w' v l ∧ Below w.heap.size w w'
theorem unes_app : ∀ (a b : List (List UInt8)), unes (a ++ b) = (unes a).bind (fun x => (unes b).map (x ++ ·))
 | [], b => by simp [unes]
 | x :: t, b => by
  rw [List.cons_append, unes, unes, unes_app t b]
  cases une x with
  | none => rfl
  | some u =>
   cases unes t with
   | none => rfl
   | some z =>
    cases unes b <;> simp
theorem spl_len (c : UInt8) : ∀ s : List UInt8, (spl c s).length ≤ s.length + 1
 | [] => by simp [spl]
 | x :: t => by
  have ih := spl_len c t
  rw [spl]
  split
  ·simp; omega
  ·split
   ·rename_i h r e; rw [e] at ih; simp at ih ⊢; omega
   ·simp
theorem spl_mem (c : UInt8) : ∀ s : List UInt8, ∀ x ∈ spl c s, x.length ≤ s.length
 | [], x, h => by
  simp [spl] at h
  simp [h]
 | y :: t, x, h => by
  have ih := spl_mem c t
  rw [spl] at h
  split at h
  ·rcases List.mem_cons.1 h with rfl | h
   ·simp
   ·have := ih x h; simp; omega
  ·split at h
   ·rename_i g r e
    rcases List.mem_cons.1 h with rfl | h
    ·have := ih g (by rw [e]; simp); simp; omega
    ·have := ih x (by rw [e]; simp [h]); simp; omega
   ·simp at h; subst h; simp
set_option maxHeartbeats 8000000 in
set_option maxRecDepth 100000 in
theorem pparse_any (p : ByteArray) (w : World) (hp : p.size ≤ 1100000) (tp : Tp w) : Calls Tryz.prog 31 #[.string p] w (PaPost (parF p.data.toList) w) := by
 have hz2 := tp.z
 have hpl := toList_size p
 obtain ⟨O, hO⟩ : ∃ O, parF p.data.toList = O := ⟨_, rfl⟩
 rw [hO]
 cases hd : p.data.toList with
 | nil =>
  rw [hd] at hO hpl
  obtain rfl : p = ⟨#[]⟩ := by
   rcases p with ⟨⟨q⟩⟩
   simp only at hd
   rw [hd]
  have HR : Hid (O = some []) := by show _ = _; rw [← hO, parF]
  clear hO
  go_enter Tryz.func31, Tryz.ntmps31
  go_wp2_with fail
  go_ret2
  exact ⟨_, [], by rw [HR.out]; rfl, by rw [HR.out]; rfl, liesS_nil w, Below.refl _ _⟩
 | cons x q =>
  have CV := hmk (valid_any p w (by omega) tp.u)
  have HT : Hid (∀ W, Below w.heap.size w W → Tp W) := fun W hb => tp.below hb hz2
  rw [hd] at hO hpl CV
  have HO : Hid ((if x = 47 ∧ validD (x :: q) = true then unes (spl 47 q) else none) = O) := by show _ = _; rw [← hO, parF]
  have hne : p.toList ≠ [] := by rw [ByteArray.toList_eq, hd]; simp
  have e0 : (p.toList == []) = false := by simpa using hne
  have hs0 : 0 < p.size := by rw [← hpl]; simp
  have hx0 : p[0] = x := by
   have : p.data.toList[0]? = some x := by rw [hd]; rfl
   rw [Array.getElem?_toList] at this
   exact Option.some.inj ((Array.getElem?_eq_getElem (xs := p.data) hs0).symm.trans this)
  have hx0n : (p[0]).toNat = x.toNat := by rw [hx0]
  clear hx0 hO tp hne
  by_cases h47 : x = 47
  ·subst h47
   have hx47 : ((p[0]).toNat : Int) = 47 := by rw [hx0n]; rfl
   have hxe := ext_one p 47 q hd
   have hxl := toList_size (p.extract 1 p.size)
   rw [hxe] at hxl
   have HX : Hid ((p.extract 1 p.size).data.toList = q ∧ (p.extract 1 p.size).size = q.length) := ⟨hxe, hxl.symm⟩
   have hql : q.length + 1 = p.size := by rw [← hpl]; simp
   have y1 : (1 : Int) ≤ p.size := by omega
   have y1n : 1 ≤ p.size := by omega
   have HQ : Hid (q.length ≤ 1100000) := by show _ ≤ _; omega
   clear hxe hxl hpl hx0n hql
   generalize hV : validD (47 :: q) = V at HO CV
   clear hV
   go_enter Tryz.func31, Tryz.ntmps31
   go_wp2_with fail
   refine CV.out.mono ?_
   rintro e w1 ⟨rfl, b1⟩
   have hz1 := b1.size
   cases V with
   | false =>
    have HR : Hid (O = none) := by show _ = _; rw [← HO.out, if_neg (fun h => by cases h.2)]
    go_wp2_with fail
    go_ret2
    exact ⟨_, [], by rw [HR.out]; rfl, by rw [HR.out]; rfl, liesS_nil _, b1⟩
   | true =>
    have HR : Hid (unes (spl 47 q) = O) := by show _ = _; rw [← HO.out, if_pos (by simp)]
    have CS := hmk (split_any (p.extract 1 p.size) w1 (by rw [HX.out.2]; have := HQ.out; omega) (HT.out w1 b1).m)
    rw [HX.out.1] at CS
    clear CV HO HX
    go_wp2_with fail
    refine CS.out.mono ?_
    rintro e w2 ⟨l, hdl, rfl, rfl⟩
    have hlen : l.length ≤ 1100001 := by
     have h1 := spl_len 47 q
     have h2 := congrArg List.length hdl
     rw [List.length_map] at h2
     have := HQ.out
     omega
    have HLm : Hid (∀ j (h : j < l.length), (l[j]).size ≤ 1100000) := fun j h => by
     have h1 : (l[j]).data.toList ∈ spl 47 q := by rw [← hdl]; exact List.mem_map.2 ⟨l[j], List.getElem_mem h, rfl⟩
     have h2 := spl_mem 47 q _ h1
     rw [toList_size] at h2
     have := HQ.out
     omega
    have HO2 : Hid (unes (dat l) = O) := by show _ = _; rw [← HR.out, ← hdl]; rfl
    have B2 : Below w1.heap.size w1 (w1.alloc (.cells (l.map Value.string).toArray 9)) := (Below.refl _ _).alloc (Nat.le_refl _) _
    have hblk0 : (w1.alloc (.cells (l.map Value.string).toArray 9)).heap[w1.heap.size]? = some (.cells (l.map Value.string).toArray 9) := alloc_last w1 _
    have hz2' := aSz w1 (.cells (l.map Value.string).toArray 9)
    clear CS hdl HR
    go_wp2_with fail
    generalize (w1.alloc (.cells (l.map Value.string).toArray 9)) = w2 at *
    go_loopw [24] (fun e wr => ∃ (j : Nat) (A : List ByteArray), j ≤ l.length ∧ e = .int .i64 (j : Int) ∧ A.length = j ∧ Hid (unes (dat (l.take j)) = some (dat A)) ∧ Hid (wr.heap[w1.heap.size]? = some (.cells ((A ++ l.drop j).map Value.string).toArray 9)) ∧ Hid (Below w1.heap.size w1 wr)) (fun e _ => l.length - (RowKit.intOf e).toNat)
    case atStart => exact ⟨0, [], by omega, rfl, rfl, by show _ = _; rfl, by show _ = _; exact hblk0, B2⟩
    case round =>
     clear hblk0 B2
     obtain ⟨j, A, hj, rfl, hA, HU, HK, HB⟩ := hrel
     have hzr := HB.out.size
     have hgr : w1.heap.size < wr.heap.size := by
      rcases Nat.lt_or_ge w1.heap.size wr.heap.size with h | h
      ·exact h
      ·have := HK.out; rw [Array.getElem?_eq_none h] at this; cases this
     by_cases hjl : j < l.length
     ·have y3 : (j : Int) < l.length := by omega
      have hget := pc_get A l j hA hjl
      have c1 : wr.cell? ⟨w1.heap.size, j, none⟩ = some (.string l[j]) := by rw [cBk HK.out, hget]
      have BW := HT.out wr (b1.trans (HB.out.mono hz1))
      have CU := hmk (unesc_any l[j] wr (by have := HLm.out j hjl; omega) BW)
      have HN : Hid (une (l[j]).data.toList = none → O = none) := fun h => by
       rw [← HO2.out]
       rw [pc_cut l j hjl, unes_app, HU.out, unes, h]
       rfl
      have HS : Hid (∀ u, une (l[j]).data.toList = some u → unes (dat (l.take (j + 1))) = some (dat (A ++ [⟨u.toArray⟩]))) := fun u h => by
       rw [pc_take l j hjl, unes_app, HU.out, unes, h, unes]
       simp [dat]
      have HD : Hid (∀ u : ByteArray, ((A ++ l.drop j).map Value.string).toArray.setIfInBounds j (.string u) = (((A ++ [u]) ++ l.drop (j + 1)).map Value.string).toArray) := fun u => pc_set A l j hA hjl u
      generalize l[j] = xj at *
      generalize hu : une xj.data.toList = U at CU HN HS
      clear hu hget
      go_wp2_with fail
      refine CU.out.mono ?_
      rintro e w3 ⟨rfl, b3⟩
      have hz3 := b3.size
      have B3 := HB.out.trans (b3.mono (by omega))
      have K3 := (b3.block w1.heap.size hgr).trans HK.out
      cases U with
      | none =>
       have HR : Hid (O = none) := HN.out rfl
       go_wp2_with fail
       go_ret2
       exact ⟨_, [], by rw [HR.out]; rfl, by rw [HR.out]; rfl, liesS_nil _, b1.trans (B3.mono hz1)⟩
      | some u =>
       have c3 : w3.cell? ⟨w1.heap.size, j, none⟩ = some (.string xj) := (b3.cell (p := ⟨w1.heap.size, j, none⟩) hgr).trans c1
       have f3 : w3.frozen? ⟨w1.heap.size, j, none⟩ = false := fBk K3 j
       have HK3 : Hid (w3.heap[w1.heap.size]? = some (.cells ((A ++ l.drop j).map Value.string).toArray 9)) := K3
       have HU' := HS.out u rfl
       have HUU : Hid (unes (dat (l.take (j + 1))) = some (dat (A ++ [⟨u.toArray⟩]))) := HU'
       clear K3 HU' HS HN
       simp only [Option.getD_some, Option.isSome_some]
       have HE : Hid ((⟨u.toArray⟩ : ByteArray) = ⟨u.toArray⟩) := rfl
       generalize (⟨u.toArray⟩ : ByteArray) = qu at *
       go_wp2_with fail
       go_roundw
       case rel => exact ⟨j + 1, A ++ [qu], by omega, by go_num, by simp [hA], HUU, by (show _ = _; rw [sBk HK3.out, HD.out]), B3.setCell (Nat.le_refl _) _⟩
       case measure => simp [RowKit.intOf]; omega
     ·obtain rfl : j = l.length := by omega
      have y3 : ¬ (l.length : Int) < l.length := by omega
      have HR : Hid (O = some (dat A)) := by show _ = _; rw [← HO2.out]; have := HU.out; rw [List.take_length] at this; exact this
      have HK' : Hid (∀ i (h : i < A.length), wr.cell? ⟨w1.heap.size, 0 + i, none⟩ = some (.string A[i])) := fun i h => by
       rw [cBk HK.out]
       simp [h, List.getElem?_append_left]
      go_wp2_with fail
      go_ret2
      refine ⟨.slice (some ⟨w1.heap.size, 0, none⟩) l.length l.length, A, by rw [HR.out]; rfl, by rw [HR.out]; rfl, ⟨⟨_, _, by rw [hA]⟩, fun _ => ⟨w1.heap.size, 0, _, by rw [hA], by rw [hA]; exact Nat.le_refl _, hgr, HK'.out⟩⟩, b1.trans (HB.out.mono hz1)⟩
  ·have HR : Hid (O = none) := by show _ = _; rw [← HO.out, if_neg (fun h => h47 h.1)]
   have hxi : ¬ ((p[0]).toNat : Int) = 47 := by rw [hx0n]; have := neN x 47 h47; simpa using this
   clear HO CV
   go_enter Tryz.func31, Tryz.ntmps31
   go_wp2_with fail
   go_ret2
   exact ⟨_, [], by rw [HR.out]; rfl, by rw [HR.out]; rfl, liesS_nil _, Below.refl _ _⟩
end Go.Proofs.YtnakligbogkmbaaGreatDoor
