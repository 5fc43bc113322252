import Derived.Test.YtjgbjhahmgegiaaGreatDoorG10
/- pointer.unescape, escape, Print. -/
set_option linter.unusedSimpArgs false
set_option linter.unusedVariables false
namespace Go.Proofs.YtjgbjhahmgegiaaGreatDoor
open Go.RowKit Go.Lib
/-- what the calls read beside their arguments -/
structure Tp (w : World) : Prop where
  u : Utf8Tabs 0 1 w
  m : MaxIs w
  z : 2 < w.heap.size
theorem Tp.below {w w' : World} {B : Nat} (h : Tp w) (hb : Below B w w') (hB : 2 < B) : Tp w' := by
  obtain ⟨m, hm⟩ := h.m
  exact ⟨utab_below h.u hb (by omega), ⟨m, (hb.cell (p := ⟨2, 0, none⟩) hB).trans hm⟩, Nat.lt_of_lt_of_le h.z hb.size⟩
theorem hmk {p : Prop} (h : p) : Hid p := h
theorem bld_below {B b : Nat} {bs : List Value} {w w' : World} (h : IsBuilderF 113 5 B b bs w) (hb : Below w.heap.size w w') : IsBuilderF 113 5 B b bs w' := by
  have key : ∀ p, BuilderAtF 113 5 B b p bs w → BuilderAtF 113 5 B b p bs w' := fun p h => by
    have hlt := h.lt
    obtain ⟨h1, v, h2, h3, h4⟩ := h
    exact ⟨h1, v, (hb.block b hlt).trans h2, h3.kept (grown_of_below hb) (by cases v.ownBlock <;> simp), h4⟩
  exact h.imp (key _) (key _)
theorem bld_new (w : World) : IsBuilderF 113 5 w.heap.size w.heap.size (byteCells []) (w.alloc (.cells #[.pointer none, .slice none 0 0] 113)) :=
  .inl ⟨Nat.le_refl _, .slice none 0 0, alloc_last w _, World.ownsRowF_nil _ _ _ _, by simp [Value.ownBlock]⟩
def szOf : Value → Nat
  | .string s => s.size
  | _ => 0
theorem bytes_app (a b : List UInt8) : byteCells a ++ byteCells b = byteCells (a ++ b) := by simp [byteCells]
theorem writeS (B b : Nat) (l : List UInt8) (s : ByteArray) (w : World) (h : IsBuilderF 113 5 B b (byteCells l) w) (hlen : l.length + s.size ≤ 140737488355328) (hBw : B ≤ w.heap.size) :
    Calls Tryz.prog 105 #[.pointer (some ⟨b, 0, none⟩), .string s] w fun e w' => e = .returned (.tuple #[.int .i64 s.size, .nilIface]) ∧ IsBuilderF 113 5 B b (byteCells (l ++ s.data.toList)) w' ∧ Below B w w' := by
  refine (Tryz.WriteString_k B b (byteCells l) s w h (by rw [byteCells_length]; exact hlen) hBw).mono ?_
  rintro e w' ⟨he, h1, h2, _⟩
  refine ⟨he, .inr ?_, h2⟩
  rw [← bytes_app]
  exact h1
theorem writeB (B b : Nat) (l : List UInt8) (c : UInt8) (w : World) (h : IsBuilderF 113 5 B b (byteCells l) w) (hlen : l.length + 1 ≤ 140737488355328) (hBw : B ≤ w.heap.size) :
    Calls Tryz.prog 107 #[.pointer (some ⟨b, 0, none⟩), .int .u8 (c.toNat : Int)] w fun e w' => e = .returned .nilIface ∧ IsBuilderF 113 5 B b (byteCells (l ++ [c])) w' ∧ Below B w w' := by
  refine (Tryz.WriteByte_k B b (byteCells l) (c.toNat : Int) w h (by rw [byteCells_length]; exact hlen) hBw).mono ?_
  rintro e w' ⟨he, h1, h2, _⟩
  refine ⟨he, .inr ?_, h2⟩
  rw [← bytes_app]
  exact h1
theorem cut_miss {s : List UInt8} (h : index s [126] = -1) : cut s [126] = (s, [], false) := by
  rw [cut, if_neg (by omega)]
theorem cut_hit {a b : List UInt8} (h : index (a ++ 126 :: b) [126] = (a.length : Int)) : cut (a ++ 126 :: b) [126] = (a, b, true) := by
  rw [cut, if_pos (by omega), h]
  simp only [Int.toNat_natCast, List.length_cons, List.length_nil, Nat.zero_add, take_sep, drop_sep]
theorem ext_one (q : ByteArray) (y : UInt8) (u : List UInt8) (h : q.data.toList = y :: u) : (q.extract 1 q.size).data.toList = u := by
  have hs : q.size = u.length + 1 := by
    have : q.data.toList.length = q.size := by rw [Array.length_toList]; rfl
    rw [h] at this
    simpa using this.symm
  rw [ByteArray.data_extract, Array.toList_extract, List.extract_eq_take_drop, h, hs]
  simp
theorem pre_one (y c : UInt8) (u : List UInt8) : hasPrefix (y :: u) ((⟨#[c]⟩ : ByteArray).data.toList) = decide (c = y) := by
  show [c].isPrefixOf (y :: u) = _
  by_cases h : c = y
  · subst h; simp [List.isPrefixOf]
  · simp [List.isPrefixOf, h]
/-- what unescape answers -/
def UnPost (o : Option (List UInt8)) (w : World) (e : Ending) (w' : World) : Prop := e = .returned (.tuple #[.string ⟨(o.getD []).toArray⟩, .bool o.isSome]) ∧ Below w.heap.size w w'
theorem ba_size (l : List UInt8) : (⟨l.toArray⟩ : ByteArray).size = l.length := by show l.toArray.size = _; rw [List.size_toArray]
theorem toList_size (s : ByteArray) : s.data.toList.length = s.size := by rw [Array.length_toList]; rfl
set_option maxHeartbeats 2000000 in
set_option maxRecDepth 100000 in
theorem unesc_any (s : ByteArray) (w : World) (hs : s.size ≤ 2147483648) (tp : Tp w) : Calls Tryz.prog 73 #[.string s] w (UnPost (une s.data.toList) w) := by
  have HO : Hid (une s.data.toList = une s.data.toList) := rfl
  have hb0 := bld_new w
  have hz0 := alloc_size w (.cells #[.pointer none, .slice none 0 0] 113)
  have B0 : Below w.heap.size w (w.alloc (.cells #[.pointer none, .slice none 0 0] 113)) := (Below.refl _ _).alloc (Nat.le_refl _) _
  have hz2 := tp.z
  have HT : Hid (∀ W, Below w.heap.size w W → Tp W) := fun W hb => tp.below hb hz2
  obtain ⟨O, hO⟩ : ∃ O, une s.data.toList = O := ⟨_, rfl⟩
  have HU0 : Hid (O = (une s.data.toList).map ([] ++ ·)) := by show _ = _; rw [hO]; simp
  rw [hO]
  clear hO HO tp
  go_enter Tryz.func73, Tryz.ntmps73
  go_wp2_with fail
  go_loopw [0] (fun e0 wr => ∃ (r : ByteArray) (out : List UInt8), e0 = .string r ∧ r.size + out.length ≤ s.size ∧ IsBuilderF 113 5 w.heap.size w.heap.size (byteCells out) wr ∧ Hid (O = (une r.data.toList).map (out ++ ·)) ∧ Hid (Below w.heap.size w wr)) (fun e0 _ => szOf e0)
  case atStart => exact ⟨s, [], rfl, by simp, hb0, HU0, B0⟩
  case round =>
    clear hb0 B0 HU0
    obtain ⟨r, out, rfl, hsz, hb, HU, HB⟩ := hrel
    have hzr := HB.out.size
    have hrl := toList_size r
    have C := hmk (cut_any r wr (by omega) (HT.out wr HB.out).m)
    rcases index_dec 126 r.data.toList with ⟨h1, h2⟩ | ⟨a, b, he, h2, h3⟩
    · rw [cut_miss h1] at C
      have HR : Hid (O = some (out ++ r.data.toList)) := by show _ = _; rw [HU.out, une_all _ h2]; rfl
      have er : (⟨r.data.toList.toArray⟩ : ByteArray) = r := by rcases r with ⟨⟨l⟩⟩; rfl
      simp only [er] at C
      clear HU
      go_wp2_with fail
      refine C.out.mono ?_
      rintro e w1 ⟨rfl, b1⟩
      have hz1 := b1.size
      have B1 := HB.out.trans (b1.mono (by omega))
      have hb1 := bld_below hb b1
      clear hb C
      go_wp2_with fail
      refine (writeS _ _ out r w1 hb1 (by omega) (by omega)).mono ?_
      rintro e w2 ⟨rfl, hb2, b2⟩
      have B2 := B1.trans b2
      have hz22 := B2.size
      go_wp2_with fail
      refine (Tryz.String_any_k _ _ (out ++ r.data.toList) w2 hb2 (by omega)).mono ?_
      rintro e w3 ⟨rfl, _, b3, _⟩
      have B3 := B2.trans b3
      go_wp2_with fail
      go_ret2
      exact ⟨by rw [HR.out]; rfl, B3⟩
    · rw [he, cut_hit (by rw [← he]; exact h3)] at C
      have HU2 : Hid (O = (une (126 :: b)).map ((out ++ a) ++ ·)) := by
        show _ = _
        rw [HU.out, he, une_pre a _ h2, Option.map_map]
        congr 1
        funext x
        simp
      have hlen : r.size = a.length + 1 + b.length := by rw [← hrl, he]; simp; omega
      have za := ba_size a
      have zb := ba_size b
      have Da : Hid ((⟨a.toArray⟩ : ByteArray).data.toList = a) := rfl
      have Db : Hid ((⟨b.toArray⟩ : ByteArray).data.toList = b) := rfl
      simp only at C
      generalize (⟨a.toArray⟩ : ByteArray) = qa at *
      generalize (⟨b.toArray⟩ : ByteArray) = qb at *
      clear HU h3 he
      go_wp2_with fail
      refine C.out.mono ?_
      rintro e w1 ⟨rfl, b1⟩
      have hz1 := b1.size
      have B1 := HB.out.trans (b1.mono (by omega))
      have hb1 := bld_below hb b1
      clear hb C
      go_wp2_with fail
      refine (writeS _ _ out qa w1 hb1 (by omega) (by omega)).mono ?_
      rintro e w2 ⟨rfl, hb2, b2⟩
      rw [Da.out] at hb2
      have B2 := B1.trans b2
      have hz22 := B2.size
      have P0 := hmk (pre_any qb ⟨#[48]⟩ w2)
      rw [Db.out] at P0
      cases b with
      | nil =>
        have HR : Hid (O = none) := by show _ = _; rw [HU2.out, une_end]; rfl
        have P1 := hmk (pre_any qb ⟨#[49]⟩ w2)
        rw [Db.out] at P1
        have e0 : hasPrefix [] ((⟨#[48]⟩ : ByteArray).data.toList) = false := rfl
        have e1 : hasPrefix [] ((⟨#[49]⟩ : ByteArray).data.toList) = false := rfl
        rw [e0] at P0
        rw [e1] at P1
        go_wp2_with fail
        refine P0.out.mono ?_
        rintro e w3 ⟨rfl, rfl⟩
        go_wp2_with fail
        refine P1.out.mono ?_
        rintro e w4 ⟨rfl, rfl⟩
        go_wp2_with fail
        go_ret2
        exact ⟨by rw [HR.out]; rfl, B2⟩
      | cons y u =>
        have hx := ext_one qb y u Db.out
        have hxl := toList_size (qb.extract 1 qb.size)
        rw [hx] at hxl
        have HX : Hid ((qb.extract 1 qb.size).data.toList = u) := hx
        have HQ : Hid (qb.size = u.length + 1 ∧ u.length = (qb.extract 1 qb.size).size) := ⟨by rw [zb]; simp, hxl⟩
        have y1 : (1 : Int) ≤ qb.size := by rw [zb]; simp only [List.length_cons]; omega
        have y1n : 1 ≤ qb.size := by omega
        have HLN : Hid (r.size = a.length + 1 + (u.length + 1)) := by show _ = _; rw [hlen]; simp
        clear hx hxl zb hlen
        by_cases hy : y = 48
        · subst hy
          have HR : Hid (O = (une u).map (((out ++ a) ++ [126]) ++ ·)) := by
            show _ = _
            rw [HU2.out, une_tilde, if_pos rfl, Option.map_map]
            congr 1
            funext x
            simp
          have e0 : hasPrefix (48 :: u) ((⟨#[48]⟩ : ByteArray).data.toList) = true := by rw [pre_one]; simp
          rw [e0] at P0
          go_wp2_with fail
          refine P0.out.mono ?_
          rintro e w3 ⟨rfl, rfl⟩
          go_wp2_with fail
          refine (writeB _ _ (out ++ a) 126 _ hb2 (by have qq := HLN.out; simp only [List.length_append]; omega) (by omega)).mono ?_
          rintro e w4 ⟨rfl, hb4, b4⟩
          have B4 := B2.trans b4
          go_wp2_with fail
          go_roundw
          case rel => exact ⟨qb.extract 1 qb.size, (out ++ a) ++ [126], rfl, by (have q := HQ.out; have qq := HLN.out; simp only [List.length_append, List.length_cons, List.length_nil]; omega), hb4, by rw [HX.out]; exact HR, B4⟩
          case measure => (have q := HQ.out; have qq := HLN.out; simp only [szOf]; omega)
        · by_cases hy1 : y = 49
          · subst hy1
            have HR : Hid (O = (une u).map (((out ++ a) ++ [47]) ++ ·)) := by
              show _ = _
              rw [HU2.out, une_tilde, if_neg (by decide), if_pos rfl, Option.map_map]
              congr 1
              funext x
              simp
            have P1 := hmk (pre_any qb ⟨#[49]⟩ w2)
            rw [Db.out] at P1
            have e0 : hasPrefix (49 :: u) ((⟨#[48]⟩ : ByteArray).data.toList) = false := by rw [pre_one]; decide
            have e1 : hasPrefix (49 :: u) ((⟨#[49]⟩ : ByteArray).data.toList) = true := by rw [pre_one]; simp
            rw [e0] at P0
            rw [e1] at P1
            go_wp2_with fail
            refine P0.out.mono ?_
            rintro e w3 ⟨rfl, rfl⟩
            go_wp2_with fail
            refine P1.out.mono ?_
            rintro e w4 ⟨rfl, rfl⟩
            go_wp2_with fail
            refine (writeB _ _ (out ++ a) 47 _ hb2 (by have qq := HLN.out; simp only [List.length_append]; omega) (by omega)).mono ?_
            rintro e w5 ⟨rfl, hb4, b4⟩
            have B4 := B2.trans b4
            go_wp2_with fail
            go_roundw
            case rel => exact ⟨qb.extract 1 qb.size, (out ++ a) ++ [47], rfl, by (have q := HQ.out; have qq := HLN.out; simp only [List.length_append, List.length_cons, List.length_nil]; omega), hb4, by rw [HX.out]; exact HR, B4⟩
            case measure => (have q := HQ.out; have qq := HLN.out; simp only [szOf]; omega)
          · have HR : Hid (O = none) := by show _ = _; rw [HU2.out, une_tilde, if_neg hy, if_neg hy1]; rfl
            have P1 := hmk (pre_any qb ⟨#[49]⟩ w2)
            rw [Db.out] at P1
            have e0 : hasPrefix (y :: u) ((⟨#[48]⟩ : ByteArray).data.toList) = false := by rw [pre_one]; exact decide_eq_false (fun e => hy e.symm)
            have e1 : hasPrefix (y :: u) ((⟨#[49]⟩ : ByteArray).data.toList) = false := by rw [pre_one]; exact decide_eq_false (fun e => hy1 e.symm)
            rw [e0] at P0
            rw [e1] at P1
            go_wp2_with fail
            refine P0.out.mono ?_
            rintro e w3 ⟨rfl, rfl⟩
            go_wp2_with fail
            refine P1.out.mono ?_
            rintro e w4 ⟨rfl, rfl⟩
            go_wp2_with fail
            go_ret2
            exact ⟨by rw [HR.out]; rfl, B2⟩
end Go.Proofs.YtjgbjhahmgegiaaGreatDoor
