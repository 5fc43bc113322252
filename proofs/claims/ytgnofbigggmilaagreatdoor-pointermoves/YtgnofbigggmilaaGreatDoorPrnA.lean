import Derived.Shelf.Strings.Replace
import Derived.Test.YtgnofbigggmilaaGreatDoorG15
set_option linter.unusedSimpArgs false
set_option linter.unusedVariables false
namespace Go.Proofs
open Go.Shelf Go.RowKit
def Tryz.lays155_ren : Go.Shelf.Ren := ⟨fun | 138 => 97 | 143 => 98 | 154 => 95 | 155 => 75 | 165 => 105 | 166 => 54 | 169 => 56 | 195 => 107 | 197 => 106 | 217 => 119 | 218 => 108 | 219 => 109 | 224 => 121 | 225 => 120 | 240 => 74 | 241 => 117 | 260 => 118 | 266 => 131 | 267 => 122 | 276 => 94 | 277 => 130 | 314 => 132 | n => n, fun | 0 => 0 | 3 => 3 | 4 => 4 | 5 => 5 | 9 => 9 | 20 => 20 | 21 => 21 | 37 => 83 | 46 => 112 | 51 => 158 | 70 => 82 | 72 => 85 | 75 => 87 | 76 => 89 | 80 => 92 | 105 => 135 | 119 => 114 | 127 => 107 | 138 => 116 | 139 => 117 | 146 => 159 | 164 => 128 | n => n, fun | 1 => 2 | 3 => 0 | 4 => 1 | n => n⟩
set_option maxRecDepth 100000 in
theorem Tryz.lays155 : Go.Proofs.Lays.n155 Tryz.prog Tryz.lays155_ren := {
 mixed := by kernel_rfl
 f138 := Tryz.func97.trans (congrArg some (by kernel_rfl))
 f143 := Tryz.func98.trans (congrArg some (by kernel_rfl))
 f154 := Tryz.func95.trans (congrArg some (by kernel_rfl))
 f155 := Tryz.func75.trans (congrArg some (by kernel_rfl))
 f165 := Tryz.func105.trans (congrArg some (by kernel_rfl))
 f166 := Tryz.func54.trans (congrArg some (by kernel_rfl))
 f169 := Tryz.func56.trans (congrArg some (by kernel_rfl))
 f195 := Tryz.func107.trans (congrArg some (by kernel_rfl))
 f197 := Tryz.func106.trans (congrArg some (by kernel_rfl))
 f217 := Tryz.func119.trans (congrArg some (by kernel_rfl))
 f218 := Tryz.func108.trans (congrArg some (by kernel_rfl))
 f219 := Tryz.func109.trans (congrArg some (by kernel_rfl))
 f224 := Tryz.func121.trans (congrArg some (by kernel_rfl))
 f225 := Tryz.func120.trans (congrArg some (by kernel_rfl))
 f240 := Tryz.func74.trans (congrArg some (by kernel_rfl))
 f241 := Tryz.func117.trans (congrArg some (by kernel_rfl))
 f260 := Tryz.func118.trans (congrArg some (by kernel_rfl))
 f266 := Tryz.func131.trans (congrArg some (by kernel_rfl))
 f267 := Tryz.func122.trans (congrArg some (by kernel_rfl))
 f276 := Tryz.func94.trans (congrArg some (by kernel_rfl))
 f277 := Tryz.func130.trans (congrArg some (by kernel_rfl))
 f314 := Tryz.func132.trans (congrArg some (by kernel_rfl))
 t0 := Tryz.underlying0
 a0 := Tryz.isAgg0
 z0 := Tryz.sizeOf0
 v0 := Tryz.zeroValue0
 t3 := Tryz.underlying3
 a3 := Tryz.isAgg3
 z3 := Tryz.sizeOf3
 v3 := Tryz.zeroValue3
 t4 := Tryz.underlying4
 a4 := Tryz.isAgg4
 z4 := Tryz.sizeOf4
 v4 := Tryz.zeroValue4
 t5 := Tryz.underlying5
 a5 := Tryz.isAgg5
 z5 := Tryz.sizeOf5
 v5 := Tryz.zeroValue5
 t9 := Tryz.underlying9
 a9 := Tryz.isAgg9
 z9 := Tryz.sizeOf9
 v9 := Tryz.zeroValue9
 t20 := Tryz.underlying20
 a20 := Tryz.isAgg20
 z20 := Tryz.sizeOf20
 v20 := Tryz.zeroValue20
 t21 := Tryz.underlying21
 a21 := Tryz.isAgg21
 z21 := Tryz.sizeOf21
 v21 := Tryz.zeroValue21
 t37 := Tryz.underlying83
 a37 := Tryz.isAgg83
 z37 := Tryz.sizeOf83
 v37 := Tryz.zeroValue83
 t46 := Tryz.underlying112
 a46 := Tryz.isAgg112
 z46 := Tryz.sizeOf112
 v46 := Tryz.zeroValue112
 t51 := Tryz.underlying158
 a51 := Tryz.isAgg158
 z51 := Tryz.sizeOf158
 v51 := Tryz.zeroValue158
 t70 := Tryz.underlying82
 a70 := Tryz.isAgg82
 z70 := Tryz.sizeOf82
 v70 := Tryz.zeroValue82
 t72 := Tryz.underlying85
 a72 := Tryz.isAgg85
 z72 := Tryz.sizeOf85
 v72 := Tryz.zeroValue85
 t75 := Tryz.underlying87
 a75 := Tryz.isAgg87
 z75 := Tryz.sizeOf87
 v75 := Tryz.zeroValue87
 t76 := Tryz.underlying89
 a76 := Tryz.isAgg89
 z76 := Tryz.sizeOf89
 v76 := Tryz.zeroValue89
 t105 := Tryz.underlying135
 a105 := Tryz.isAgg135
 z105 := Tryz.sizeOf135
 v105 := Tryz.zeroValue135
 t119 := Tryz.underlying114
 a119 := Tryz.isAgg114
 z119 := Tryz.sizeOf114
 t127 := Tryz.underlying107
 a127 := Tryz.isAgg107
 z127 := Tryz.sizeOf107
 v127 := Tryz.zeroValue107
 t138 := Tryz.underlying116
 a138 := Tryz.isAgg116
 z138 := Tryz.sizeOf116
 v138 := Tryz.zeroValue116
 t139 := Tryz.underlying117
 a139 := Tryz.isAgg117
 z139 := Tryz.sizeOf117
 v139 := Tryz.zeroValue117
 t146 := Tryz.underlying159
 a146 := Tryz.isAgg159
 z146 := Tryz.sizeOf159
 v146 := Tryz.zeroValue159
 t164 := Tryz.underlying128
 a164 := Tryz.isAgg128
 z164 := Tryz.sizeOf128
 v164 := Tryz.zeroValue128
 g1 := by kernel_rfl
 g3 := by kernel_rfl
 g4 := by kernel_rfl }
theorem Tryz.lays155X : Builder.Extra Tryz.prog Tryz.lays155_ren := {
 sizeBuilder := by kernel_rfl
 liesBuilder := by kernel_rfl
 t5 := Tryz.underlying5
 a5 := Tryz.isAgg5
 z5 := Tryz.sizeOf5
 v5 := Tryz.zeroValue5
 infoByte := by kernel_rfl
 cellsByte := by kernel_rfl
 sizeByte := by kernel_rfl
 neB5 := by decide }
namespace YtgnofbigggmilaaGreatDoor
open Go.RowKit Go.Lib
theorem repl_any (s : ByteArray) (c : UInt8) (new : ByteArray) (w : World) (hs : s.size ≤ 4000000) (hn : new.size ≤ 2) (hne : ([c] == new.data.toList) = false) (hm : MaxIs w) :
 Calls Tryz.prog 75 #[.string s, .string ⟨#[c]⟩, .string new] w fun e w' => e = .returned (.string ⟨(repl c new.data.toList s.data.toList).toArray⟩) ∧ Below w.heap.size w w' := by
 obtain ⟨m, hm⟩ := hm
 have hle := countB_le ⟨#[c]⟩ (by show 1 ≤ 1; omega) s.size s (Nat.le_refl _)
 have hmul : countB s ⟨#[c]⟩ * new.size ≤ 4000001 * 2 := Nat.mul_le_mul (by omega) hn
 refine (Any.strings_ReplaceAll Tryz.lays155 Tryz.lays155X s ⟨#[c]⟩ new m w (by omega) hm (by show 1 ≤ 1; omega) (by omega)).mono ?_
 rintro e w' ⟨he, hw⟩
 refine ⟨he.trans ?_, hw⟩
 rw [← replaceAll_one c new.data.toList s.data.toList hne]
set_option maxHeartbeats 8000000 in
set_option maxRecDepth 100000 in
theorem escape_any (s : ByteArray) (w : World) (hs : s.size ≤ 1500000) (tp : Tp w) : Calls Tryz.prog 55 #[.string s] w fun e w' => e = .returned (.string ⟨(esp s.data.toList).toArray⟩) ∧ Below w.heap.size w w' := by
 have C1 := hmk (repl_any s 126 ⟨#[126, 48]⟩ w (by omega) (by decide) (by rfl) tp.m)
 have hl := repl_len 126 [126, 48] (by decide) s.data.toList
 rw [toList_size] at hl
 have hq := ba_size (repl 126 [126, 48] s.data.toList)
 have HQ : Hid ((⟨(repl 126 [126, 48] s.data.toList).toArray⟩ : ByteArray).data.toList = repl 126 [126, 48] s.data.toList) := rfl
 have HE : Hid (esp s.data.toList = repl 47 [126, 49] (repl 126 [126, 48] s.data.toList)) := (esp_repl _).symm
 have HT : Hid (∀ W, Below w.heap.size w W → Tp W) := fun W hb => tp.below hb tp.z
 change Hid (Calls Tryz.prog 75 #[.string s, .string ⟨#[126]⟩, .string ⟨#[126, 48]⟩] w fun e w' => e = .returned (.string ⟨(repl 126 [126, 48] s.data.toList).toArray⟩) ∧ Below w.heap.size w w') at C1
 generalize esp s.data.toList = E at *
 generalize repl 126 [126, 48] s.data.toList = K at *
 generalize (⟨K.toArray⟩ : ByteArray) = qk at *
 clear tp
 go_enter Tryz.func55, Tryz.ntmps55
 go_wp2_with fail
 refine C1.out.mono ?_
 rintro e w1 ⟨rfl, b1⟩
 have hz1 := b1.size
 have C2 := hmk (repl_any qk 47 ⟨#[126, 49]⟩ w1 (by omega) (by decide) (by rfl) (HT.out w1 b1).m)
 rw [HQ.out] at C2
 go_wp2_with fail
 refine C2.out.mono ?_
 rintro e w2 ⟨rfl, b2⟩
 go_wp2_with fail
 go_ret
 exact ⟨by rw [HE.out]; rfl, b1.trans (b2.mono hz1)⟩
set_option maxHeartbeats 8000000 in
set_option maxRecDepth 100000 in
theorem pprint_any (l : List ByteArray) (v : Value) (w : World) (hv : LiesS w v l) (ht : totS l ≤ 1100000) (tp : Tp w) : Calls Tryz.prog 29 #[v] w (PtPost (prA (dat l)) w) := by
 have hll := totS_len l
 have hb0 := bld_new w
 have hz0 := alloc_size w (.cells #[.pointer none, .slice none 0 0] 85)
 have B0 : Below w.heap.size w (w.alloc (.cells #[.pointer none, .slice none 0 0] 85)) := (Below.refl _ _).alloc (Nat.le_refl _) _
 have hz2 := tp.z
 have HT : Hid (∀ W, Below w.heap.size w W → Tp W ∧ LiesS W v l) := fun W hb => ⟨tp.below hb hz2, hv.below hb⟩
 have HA : Hid (∀ j (h : j < l.length), validD (l[j]).data.toList = false → prA (dat l) = none) := fun j h hf => by
  rw [prA, if_neg]
  intro h2
  rw [List.all_eq_true] at h2
  have := h2 (l[j]).data.toList (List.mem_map.2 ⟨l[j], List.getElem_mem h, rfl⟩)
  rw [hf] at this
  cases this
 have HF : Hid ((∀ j (h : j < l.length), validD (l[j]).data.toList = true) → prA (dat l) = some (prT (dat l))) := fun h => by
  rw [prA, if_pos]
  rw [List.all_eq_true]
  intro x hx
  obtain ⟨y, hy, rfl⟩ := List.mem_map.1 hx
  obtain ⟨j, hj, rfl⟩ := List.getElem_of_mem hy
  exact h j hj
 have HS : Hid (∀ j (h : j < l.length), prT (dat (l.take (j + 1))) = (prT (dat (l.take j)) ++ [47]) ++ esp (l[j]).data.toList ∧ (prT (dat (l.take j))).length ≤ 2200000 ∧ (l[j]).size ≤ 1100000) := fun j h => by
  refine ⟨?_, ?_, ?_⟩
  ·rw [List.take_succ_eq_append_getElem h]
   simp only [dat, List.map_append, List.map_cons, List.map_nil]
   exact prT_snoc _ _
  ·have := prT_len (l.take j); have := totS_take l j; omega
  ·have := totS_mem (List.getElem_mem h); omega
 obtain ⟨⟨al, cl, rfl⟩, _⟩ := hv
 obtain ⟨O, hO⟩ : ∃ O, prA (dat l) = O := ⟨_, rfl⟩
 rw [hO] at HA HF ⊢
 clear hO tp
 go_enter Tryz.func29, Tryz.ntmps29
 go_wp2_with fail
 go_loopw [9] (fun e9 wr => ∃ j : Nat, j ≤ l.length ∧ e9 = .int .i64 (j : Int) ∧ IsBuilderF 85 5 w.heap.size w.heap.size (byteCells (prT (dat (l.take j)))) wr ∧ Hid (∀ i (h : i < l.length), i < j → validD (l[i]).data.toList = true) ∧ Hid (Below w.heap.size w wr)) (fun e _ => l.length - (RowKit.intOf e).toNat)
 case atStart => exact ⟨0, by omega, rfl, hb0, fun i _ h => by omega, B0⟩
 case round =>
  clear hb0 B0
  obtain ⟨j, hj, rfl, hb, HV, HB⟩ := hrel
  have hzr := HB.out.size
  by_cases hjl : j < l.length
  ·have y1 : (j : Int) < l.length := by omega
   obtain ⟨tpr, hvr⟩ := HT.out wr HB.out
   obtain ⟨g, o, d, e1, hg, hg2, hc⟩ := hvr.2 (by omega)
   cases e1
   have c1 := hc j hjl
   obtain ⟨hs1, hs2, hs3⟩ := HS.out j hjl
   have CV := hmk (valid_any l[j] wr (by omega) tpr.u)
   have HA' := hmk (HA.out j hjl)
   have CE : Hid (∀ W, Tp W → Calls Tryz.prog 55 #[.string l[j]] W fun e w' => e = .returned (.string ⟨(esp (l[j]).data.toList).toArray⟩) ∧ Below W.heap.size W w') := fun W h => escape_any l[j] W (by omega) h
   have hel := esp_len (l[j]).data.toList
   rw [toList_size] at hel
   have HV' : Hid (validD (l[j]).data.toList = true → ∀ i (h : i < l.length), i < j + 1 → validD (l[i]).data.toList = true) := fun h i hi hlt => by
    by_cases e : i = j
    ·subst e; exact h
    ·exact HV.out i hi (by omega)
   have HS1 : Hid (prT (dat (l.take (j + 1))) = (prT (dat (l.take j)) ++ [47]) ++ esp (l[j]).data.toList) := hs1
   generalize prT (dat (l.take j)) = P at *
   generalize l[j] = x at *
   generalize esp x.data.toList = E at *
   have hqe := ba_size E
   have HQ : Hid ((⟨E.toArray⟩ : ByteArray).data.toList = E) := rfl
   generalize (⟨E.toArray⟩ : ByteArray) = qe at *
   generalize validD x.data.toList = V at *
   clear hc hs1 hvr
   go_wp2_with fail
   refine CV.out.mono ?_
   rintro e w1 ⟨rfl, b1⟩
   have hz1 := b1.size
   have B1 := HB.out.trans (b1.mono (by omega))
   have hb1 := bld_below hb b1
   cases V with
   | false =>
    have HR : Hid (O = none) := HA'.out rfl
    go_wp2_with fail
    go_ret2
    exact ⟨by rw [HR.out]; rfl, B1⟩
   | true =>
    go_wp2_with fail
    refine (writeB _ _ P 47 w1 hb1 (by omega) (by omega)).mono ?_
    rintro e w2 ⟨rfl, hb2, b2⟩
    have B2 := B1.trans b2
    have hz22 := B2.size
    go_wp2_with fail
    refine (CE.out w2 (HT.out w2 B2).1).mono ?_
    rintro e w3 ⟨rfl, b3⟩
    have hz3 := b3.size
    have B3 := B2.trans (b3.mono (by omega))
    have hb3 := bld_below hb2 b3
    go_wp2_with fail
    refine (writeS _ _ (P ++ [47]) qe w3 hb3 (by simp only [List.length_append, List.length_cons, List.length_nil]; omega) (by omega)).mono ?_
    rintro e w4 ⟨rfl, hb4, b4⟩
    rw [HQ.out] at hb4
    have B4 := B3.trans b4
    go_wp2_with fail
    go_roundw
    case rel => exact ⟨j + 1, by omega, by go_num, by rw [HS1.out]; exact hb4, HV'.out (by first | trivial | rfl), B4⟩
    case measure => simp [RowKit.intOf]; omega
  ·obtain rfl : j = l.length := by omega
   have y1 : ¬ (l.length : Int) < l.length := by omega
   rw [List.take_length] at hb
   have HR : Hid (O = some (prT (dat l))) := HF.out (fun i hi => HV.out i hi hi)
   go_wp2_with fail
   refine (Tryz.String_any_k _ _ (prT (dat l)) wr hb (by omega)).mono ?_
   rintro e w3 ⟨rfl, _, b3, _⟩
   have B3 := HB.out.trans b3
   go_wp2_with fail
   go_ret2
   exact ⟨by rw [HR.out]; rfl, B3⟩
end YtgnofbigggmilaaGreatDoor
end Go.Proofs
