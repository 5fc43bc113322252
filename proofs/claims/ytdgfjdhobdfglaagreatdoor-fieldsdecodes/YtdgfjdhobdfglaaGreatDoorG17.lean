/- joined: BrcA NamP NamA NamB NamC NamD -/
import Derived.Shelf.SlSortCmp.WholeK
import Derived.Test.YtdgfjdhobdfglaaGreatDoorG16
import Derived.Laws.RangeAny
import Derived.LoopTactic
set_option linter.unusedSimpArgs false
set_option linter.unusedVariables false
set_option maxHeartbeats 64000000
namespace Go.Proofs
open Go.Shelf Go.RowKit
def Tryz.sort30_ren : Go.Shelf.Ren := ⟨fun | 6 => 30 | 14 => 44 | 15 => 45 | 20 => 67 | 21 => 68 | 22 => 69 | 23 => 70 | 24 => 71 | 25 => 72 | 26 => 73 | 27 => 74 | 28 => 75 | 29 => 76 | 46 => 103 | 47 => 104 | 48 => 105 | 49 => 106 | 50 => 107 | 57 => 130 | n => n, fun | 0 => 0 | 3 => 3 | 4 => 4 | 5 => 5 | 9 => 9 | 22 => 59 | 24 => 64 | 25 => 76 | 39 => 91 | 45 => 115 | 46 => 116 | 50 => 120 | 53 => 123 | 55 => 125 | 66 => 150 | 70 => 154 | 76 => 173 | 77 => 174 | n => n, fun | n => n⟩
theorem Tryz.sort30 : Go.Proofs.SlLaysF0.n6 Tryz.prog Tryz.sort30_ren := {
 mixed := by kernel_rfl
 f6 := ⟨Tryz.f30.name, by kernel_rfl, Tryz.func30.trans (congrArg some (by kernel_rfl))⟩
 f14 := ⟨Tryz.f44.name, by kernel_rfl, Tryz.func44.trans (congrArg some (by kernel_rfl))⟩
 f15 := Tryz.func45.trans (congrArg some (by kernel_rfl))
 f20 := ⟨Tryz.f67.name, by kernel_rfl, Tryz.func67.trans (congrArg some (by kernel_rfl))⟩
 f21 := ⟨Tryz.f68.name, by kernel_rfl, Tryz.func68.trans (congrArg some (by kernel_rfl))⟩
 f22 := ⟨Tryz.f69.name, by kernel_rfl, Tryz.func69.trans (congrArg some (by kernel_rfl))⟩
 f23 := ⟨Tryz.f70.name, by kernel_rfl, Tryz.func70.trans (congrArg some (by kernel_rfl))⟩
 f24 := ⟨Tryz.f71.name, by kernel_rfl, Tryz.func71.trans (congrArg some (by kernel_rfl))⟩
 f25 := ⟨Tryz.f72.name, by kernel_rfl, Tryz.func72.trans (congrArg some (by kernel_rfl))⟩
 f26 := ⟨Tryz.f73.name, by kernel_rfl, Tryz.func73.trans (congrArg some (by kernel_rfl))⟩
 f27 := ⟨Tryz.f74.name, by kernel_rfl, Tryz.func74.trans (congrArg some (by kernel_rfl))⟩
 f28 := Tryz.func75.trans (congrArg some (by kernel_rfl))
 f29 := Tryz.func76.trans (congrArg some (by kernel_rfl))
 f46 := ⟨Tryz.f103.name, by kernel_rfl, Tryz.func103.trans (congrArg some (by kernel_rfl))⟩
 f47 := Tryz.func104.trans (congrArg some (by kernel_rfl))
 f48 := Tryz.func105.trans (congrArg some (by kernel_rfl))
 f49 := ⟨Tryz.f106.name, by kernel_rfl, Tryz.func106.trans (congrArg some (by kernel_rfl))⟩
 f50 := ⟨Tryz.f107.name, by kernel_rfl, Tryz.func107.trans (congrArg some (by kernel_rfl))⟩
 f57 := ⟨Tryz.f130.name, by kernel_rfl, Tryz.func130.trans (congrArg some (by kernel_rfl))⟩
 t0 := Tryz.underlying0
 a0 := Tryz.isAgg0
 z0 := Tryz.sizeOf0
 v0 := Tryz.zeroValue0
 t3 := Tryz.underlying3
 a3 := Tryz.isAgg3
 z3 := Tryz.sizeOf3
 v3 := Tryz.zeroValue3
 t4 := Tryz.underlying4
 a4 := Tryz.isAgg4
 z4 := Tryz.sizeOf4
 v4 := Tryz.zeroValue4
 t5 := Tryz.underlying5
 a5 := Tryz.isAgg5
 z5 := Tryz.sizeOf5
 v5 := Tryz.zeroValue5
 t9 := Tryz.underlying9
 a9 := Tryz.isAgg9
 z9 := Tryz.sizeOf9
 v9 := Tryz.zeroValue9
 t22 := Tryz.underlying59
 a22 := Tryz.isAgg59
 z22 := Tryz.sizeOf59
 v22 := Tryz.zeroValue59
 t25 := Tryz.underlying76
 a25 := Tryz.isAgg76
 z25 := Tryz.sizeOf76
 v25 := Tryz.zeroValue76
 t39 := Tryz.underlying91
 a39 := Tryz.isAgg91
 z39 := Tryz.sizeOf91
 v39 := Tryz.zeroValue91
 t45 := Tryz.underlying115
 a45 := Tryz.isAgg115
 z45 := Tryz.sizeOf115
 v45 := Tryz.zeroValue115
 t46 := Tryz.underlying116
 a46 := Tryz.isAgg116
 z46 := Tryz.sizeOf116
 v46 := Tryz.zeroValue116
 t50 := Tryz.underlying120
 a50 := Tryz.isAgg120
 z50 := Tryz.sizeOf120
 v50 := Tryz.zeroValue120
 t53 := Tryz.underlying123
 a53 := Tryz.isAgg123
 z53 := Tryz.sizeOf123
 v53 := Tryz.zeroValue123
 t55 := Tryz.underlying125
 a55 := Tryz.isAgg125
 z55 := Tryz.sizeOf125
 v55 := Tryz.zeroValue125
 t66 := Tryz.underlying150
 a66 := Tryz.isAgg150
 z66 := Tryz.sizeOf150
 v66 := Tryz.zeroValue150
 t70 := Tryz.underlying154
 a70 := Tryz.isAgg154
 z70 := Tryz.sizeOf154
 v70 := Tryz.zeroValue154
 t76 := Tryz.underlying173
 a76 := Tryz.isAgg173
 z76 := Tryz.sizeOf173
 v76 := Tryz.zeroValue173
 t77 := Tryz.underlying174
 a77 := Tryz.isAgg174
 z77 := Tryz.sizeOf174
 v77 := Tryz.zeroValue174 }
namespace YtdgfjdhobdfglaaGreatDoor
open Go.Lib Go.Sort
def EB (x : El × V) (w : World) (S : Nat -> Prop) (cs : List Value) : Prop := ∃ ec vc, cs = ec ++ vc /\ x.1.lies w S ec /\ x.2.lies false w S vc
theorem keepB : KeepE EB := fun x w w' S S' cs hw hS h => by
 obtain ⟨ec, vc, rfl, h1, h2⟩ := h
 exact ⟨ec, vc, rfl, El.lies_keep hw hS h1, V.lies_keep (fun h => h) hw hS _ h2⟩
structure BC (w : World) (S : Nat -> Prop) where
 e : El
 v : V
 ec : List Value
 vc : List Value
 he : e.lies w S ec
 hv : v.lies false w S vc
def BC.enc {w : World} {S : Nat -> Prop} (x : BC w S) : List Value := x.ec ++ x.vc
def BC.pr {w : World} {S : Nat -> Prop} (x : BC w S) : El × V := (x.e, x.v)
def BC.cmp {w : World} {S : Nat -> Prop} (x y : BC w S) : Int := oeE x.e y.e
theorem BC.len {w : World} {S : Nat -> Prop} (x : BC w S) : x.enc.length = 15 := by
 obtain ⟨e, v, ec, vc, he, hv⟩ := x
 obtain ⟨ak, azs, aam, anm, acm, avk, avb, avi, avs, aval, avnl, avcl, avam, avnm, avcm, rfl⟩ := El.nine he
 obtain ⟨auk, aub, aui, aus, aual, aunl, aucl, auam, aunm, aucm, rfl⟩ := V.ten hv
 rfl
theorem BC.one {w : World} {S : Nat -> Prop} (x : BC w S) : ∀ u ∈ x.enc, u.oneCell' = true := by
 obtain ⟨e, v, ec, vc, he, hv⟩ := x
 obtain ⟨ak, azs, aam, anm, acm, avk, avb, avi, avs, aval, avnl, avcl, avam, avnm, avcm, rfl⟩ := El.nine he
 obtain ⟨auk, aub, aui, aus, aual, aunl, aucl, auam, aunm, aucm, rfl⟩ := V.ten hv
 intro u hu
 simp only [BC.enc, List.cons_append, List.nil_append, List.mem_cons, List.not_mem_nil, or_false] at hu
 rcases hu with rfl | rfl | rfl | rfl | rfl | rfl | rfl | rfl | rfl | rfl | rfl | rfl | rfl | rfl | rfl <;> rfl
def zel : El := ⟨0, ⟨#[]⟩, [], .mk 0 false 0 ⟨#[]⟩ [] []⟩
theorem zel_lies (w : World) (S : Nat -> Prop) : zel.lies w S [.int .i64 0, .string ⟨#[]⟩, .slice none 0 0, .int .i64 0, .bool false, .int .i64 0, .string ⟨#[]⟩, .slice none 0 0, .slice none 0 0] := by
 refine ⟨none, 0, 0, 0, _, rfl, (show In64 0 from ⟨by omega, by omega⟩), by simp [zel, maxLen, ByteArray.size], ⟨Nat.le_refl _, by simp [zel, maxLen], .inl rfl, fun _ => rfl⟩, trivial, ?_⟩
 show V.lies false w S (.mk 0 false 0 ⟨#[]⟩ [] []) _
 rw [V.lies]
 exact ⟨none, 0, 0, 0, none, 0, 0, 0, rfl, ⟨by omega, by omega⟩, ⟨by omega, by omega⟩, by simp [maxLen, ByteArray.size], ⟨Nat.le_refl _, by simp [maxLen], .inl rfl, fun _ => rfl⟩, ⟨Nat.le_refl _, by simp [maxLen], .inl rfl, fun _ => rfl⟩, trivial, trivial, fun h => by cases h⟩
theorem zv_lies (w : World) (S : Nat -> Prop) : V.lies false w S (.mk 0 false 0 ⟨#[]⟩ [] []) [.int .i64 0, .bool false, .int .i64 0, .string ⟨#[]⟩, .slice none 0 0, .slice none 0 0] := by
 rw [V.lies]
 exact ⟨none, 0, 0, 0, none, 0, 0, 0, rfl, ⟨by omega, by omega⟩, ⟨by omega, by omega⟩, by simp [maxLen, ByteArray.size], ⟨Nat.le_refl _, by simp [maxLen], .inl rfl, fun _ => rfl⟩, ⟨Nat.le_refl _, by simp [maxLen], .inl rfl, fun _ => rfl⟩, trivial, trivial, fun h => by cases h⟩
instance bcThere (w : World) (S : Nat -> Prop) : Inhabited (BC w S) := ⟨⟨zel, _, _, _, zel_lies w S, zv_lies w S⟩⟩
theorem bc_lt {w : World} {S : Nat -> Prop} {x y : BC w S} : ltOf BC.cmp x y = true ↔ oeE x.e y.e < 0 := by rw [ltOf]; exact decide_eq_true_iff
theorem bc_lt_no {w : World} {S : Nat -> Prop} {x y : BC w S} : ltOf BC.cmp x y = false ↔ ¬ oeE x.e y.e < 0 := by rw [ltOf]; exact decide_eq_false_iff_not
theorem bc_swo {w : World} {S : Nat -> Prop} : SWO (ltOf (BC.cmp (w := w) (S := S))) where
 irrefl x := by rw [bc_lt_no]; have := wk_E.self x.e; omega
 trans x y z h1 h2 := by rw [bc_lt] at *; exact wk_E.tri _ _ _ h1 h2
 ntrans x y z h1 h2 := by
  rw [bc_lt_no] at *
  intro h3
  have ha := wk_E.anti x.e y.e
  rcases Int.lt_trichotomy (oeE x.e y.e) 0 with h | h | h
  ·exact h1 h
  ·have := wk_E.cong _ _ z.e h
   omega
  ·have := wk_E.tri y.e x.e z.e (by omega) h3
   exact h2 this
set_option maxRecDepth 100000 in
theorem bcmp_any {w : World} {S : Nat -> Prop} (x y : BC w S) (W : World) (hw : ∀ b, S b -> W.heap[b]? = w.heap[b]?) (hS : ∀ b, S b -> b < W.heap.size) :
 Calls Tryz.prog 31 #[.agg x.enc.toArray, .agg y.enc.toArray] W fun e w' => e = .returned (.int .i64 (BC.cmp x y)) /\ ∃ q os', w' = grow (W.drewN q) os' := by
 obtain ⟨e, v, ec, vc, he, hv⟩ := x
 obtain ⟨e', v', ec', vc', he', hv'⟩ := y
 obtain ⟨ak, azs, aam, anm, acm, avk, avb, avi, avs, aval, avnl, avcl, avam, avnm, avcm, rfl⟩ := El.nine he
 obtain ⟨auk, aub, aui, aus, aual, aunl, aucl, auam, aunm, aucm, rfl⟩ := V.ten hv
 obtain ⟨bk, bs, bam, bnm, bcm, bvk, bvb, bvi, bvs, bval, bvnl, bvcl, bvam, bvnm, bvcm, rfl⟩ := El.nine he'
 obtain ⟨buk, bub, bui, bus, bual, bunl, bucl, buam, bunm, bucm, rfl⟩ := V.ten hv'
 show Calls Tryz.prog 31 #[.agg #[.int .i64 ak, .string azs, .slice aam anm acm, .int .i64 avk, .bool avb, .int .i64 avi, .string avs, .slice aval avnl avcl, .slice avam avnm avcm, .int .i64 auk, .bool aub, .int .i64 aui, .string aus, .slice aual aunl aucl, .slice auam aunm aucm], .agg #[.int .i64 bk, .string bs, .slice bam bnm bcm, .int .i64 bvk, .bool bvb, .int .i64 bvi, .string bvs, .slice bval bvnl bvcl, .slice bvam bvnm bvcm, .int .i64 buk, .bool bub, .int .i64 bui, .string bus, .slice bual bunl bucl, .slice buam bunm bucm]] W fun e2 w' => e2 = .returned (.int .i64 (oeE e e')) /\ ∃ q os', w' = grow (W.drewN q) os'
 have B2 := two_bd W (.cells #[.int .i64 ak, .string azs, .slice aam anm acm, .int .i64 avk, .bool avb, .int .i64 avi, .string avs, .slice aval avnl avcl, .slice avam avnm avcm, .int .i64 auk, .bool aub, .int .i64 aui, .string aus, .slice aual aunl aucl, .slice auam aunm aucm] 64) (.cells #[.int .i64 bk, .string bs, .slice bam bnm bcm, .int .i64 bvk, .bool bvb, .int .i64 bvi, .string bvs, .slice bval bvnl bvcl, .slice bvam bvnm bvcm, .int .i64 buk, .bool bub, .int .i64 bui, .string bus, .slice bual bunl bucl, .slice buam bunm bucm] 64)
 have c := hmk (oelem_anyD e e' S S _ _ _ (El.lies_keep (fun b hb => (B2.block b (hS b hb)).trans (hw b hb)) (fun _ h => h) he) (El.lies_keep (fun b hb => (B2.block b (hS b hb)).trans (hw b hb)) (fun _ h => h) he') (fun b hb => Nat.lt_of_lt_of_le (hS b hb) B2.size) (fun b hb => Nat.lt_of_lt_of_le (hS b hb) B2.size))
 generalize oeE e e' = c0 at *
 clear he he' hv hv' hw hS
 go_enter Tryz.func31, Tryz.ntmps31
 go_wp2_with fail
 refine c.out.mono ?_
 rintro e2 w3 ⟨rfl, b3⟩
 have BB := hmk ((B2.trans (b3.mono B2.size)).grow)
 clear b3 c B2
 go_wp2_with fail
 go_ret
 exact ⟨rfl, BB.out⟩
theorem get_arrB {w : World} {S : Nat -> Prop} {d : List (BC w S)} {i : Nat} (h : i < d.length) : d.toArray[i]! = d[i] := by simp [h]
theorem rows_of_holdsB {w0 : World} {S : Nat -> Prop} {d : Array (BC w0 S)} {w : World} {b o : Nat} (h : HoldsK BC.enc 15 w b o d) (j : Nat) (hj : j < d.toList.length) : rowAt w b (o + j * 15) (d.toList[j]).enc := by
 intro t u hu
 have ht : t < 15 := by have := (List.getElem?_eq_some_iff.1 hu).1; rwa [BC.len] at this
 have hj' : j < d.size := by simpa using hj
 have := (HoldsK.cell h hj' ht).1
 rw [this]
 have e : d[j]! = d.toList[j] := by rw [getElem!_pos d j hj']; rfl
 rw [e]
 obtain ⟨h1, h2⟩ := List.getElem?_eq_some_iff.1 hu
 rw [getElem!_pos _ t h1, h2]
theorem sortK_grown {w1 : World} {S : Nat -> Prop} {w0 : World} {g off n : Nat} {d : Array (BC w1 S)} {os : Array Obj} : w0.grownBy (sortWorldK BC.enc 15 w0 g off n d os) (some g) := by
 refine ⟨rfl, rfl, rfl, size_sortWorldK_c BC.enc 15 w0 g off n d os, fun k hk hne => ?_⟩
 have hne' : g ≠ k := fun e => hne (by rw [e])
 have e : (sortWorldK BC.enc 15 w0 g off n d os).heap = (w0.heap.modify g (onCells (Go.Sort.putCells id off (flatK BC.enc 15 d)))) ++ os := rfl
 rw [e, Array.getElem?_append_left (by rw [Array.size_modify]; omega), Array.getElem?_modify, if_neg hne']
theorem bsort_any {w : World} {S : Nat -> Prop} (d : List (BC w S)) (g cap : Nat) (W : World) (hW : ∀ b, S b -> W.heap[b]? = w.heap[b]?) (hS : ∀ b, S b -> b < W.heap.size /\ b ≠ g) (hH : HoldsK BC.enc 15 W g 0 d.toArray) (hg : g < W.heap.size) (hn : d.length <= 1099511627776) :
 Calls Tryz.prog 30 #[.slice (some ⟨g, 0, none⟩) d.length cap, .func (.func 31) #[] #[]] W fun e w' => e = .returned (.tuple #[]) /\ ∃ d' : List (BC w S), d'.Perm d /\ d'.Pairwise (fun a b => ¬ oeE b.e a.e < 0) /\ (∀ (j : Nat) (h : j < d'.length), rowAt w' g (0 + j * 15) (d'[j]).enc) /\ W.grownBy w' (some g) := by
 have eg : ∀ args w, (callFunc 31 args).run Tryz.prog w = .ok (.enter 31 args) w := enters_of Tryz.func31 (by kernel_rfl) rfl
 have hcon := AnyQ.slices_SortFunc Tryz.sort30 15 Tryz.isAgg64 Tryz.sizeOf64 BC.enc BC.len BC.one BC.cmp bc_swo 31 #[] g 0 cap d.toArray W eg (fun m os dk hs x y => bcmp_any x y _ (fun b hb => (sortK_grown.block b (hS b hb).1 (fun e => (hS b hb).2 (by injection e))).trans (hW b hb)) (fun b hb => Nat.lt_of_lt_of_le (hS b hb).1 sortK_grown.size)) hH hg (by simp; omega)
 have e0 : d.toArray.size = d.length := by simp
 rw [e0] at hcon
 change Calls Tryz.prog 30 _ _ _ at hcon
 refine hcon.mono ?_
 rintro e w' ⟨rfl, d', n, os, ⟨hs, _, hp⟩, hsrt, rfl⟩
 have hs' : d'.size = d.length := by rw [hs]; simp
 refine ⟨rfl, d'.toList, ?_, ?_, ?_, sortK_grown⟩
 ·have h1 : d'.extract 0 d.length = d' := by rw [<- hs']; simp
  have h2 : d.toArray.extract 0 d.length = d.toArray := by rw [<- e0]; simp
  rw [h1, h2] at hp
  exact hp
 ·refine List.pairwise_iff_getElem.2 fun i j hi hj hij => ?_
  have hi' : i < d'.size := by simpa using hi
  have hj' : j < d'.size := by simpa using hj
  have := hsrt i j (Nat.zero_le _) hij (by omega)
  rw [getElem!_pos d' i hi', getElem!_pos d' j hj'] at this
  exact bc_lt_no.1 this
 ·exact rows_of_holdsB (holdsK_sortWorldK_c BC.enc 15 W g 0 d.toArray d' n os hH hg (by rw [hs]))
set_option maxRecDepth 100000 in
theorem ins_nil (w : World) : Calls Tryz.prog 67 #[.slice none 0 0, .int .i64 0, .int .i64 0, .func (.func 31) #[] #[]] w fun e w' => e = .returned (.tuple #[]) /\ w' = w := by
 go_enter Tryz.func67, Tryz.ntmps67
 go_wp2_with fail
 go_loopw [8] (fun e wr => e = .int .i64 1 /\ wr = w) (fun _ _ => 0)
 case atStart => exact ⟨by go_num, rfl⟩
 case round =>
  obtain ⟨rfl, rfl⟩ := hrel
  go_wp2_with fail
  go_end0
  exact ⟨rfl, rfl⟩
set_option maxRecDepth 100000 in
theorem pdq_nil (m : Int) (w : World) : Calls Tryz.prog 44 #[.slice none 0 0, .int .i64 0, .int .i64 0, .int .i64 m, .func (.func 31) #[] #[]] w fun e w' => e = .returned (.tuple #[]) /\ w' = w := by
 have hc := ins_nil w
 go_enter Tryz.func44, Tryz.ntmps44
 go_wp2_with fail
 go_loopw [1, 2] (fun e1 e2 wr => e1 = .int .i64 0 /\ e2 = .int .i64 0 /\ wr = w) (fun _ _ _ => 0)
 case atStart => exact ⟨rfl, rfl, rfl⟩
 case round =>
  obtain ⟨rfl, rfl, rfl⟩ := hrel
  go_wp2_with fail
  refine hc.mono ?_
  rintro e w1 ⟨rfl, rfl⟩
  go_wp2_with fail
  exact bodyPost_ret (v := .tuple #[]) (results_none rfl _ _ _) rfl ⟨rfl, rfl⟩
set_option maxRecDepth 100000 in
theorem bsort_nil (w : World) : Calls Tryz.prog 30 #[.slice none 0 0, .func (.func 31) #[] #[]] w fun e w' => e = .returned (.tuple #[]) /\ w' = w := by
 have hl : Calls Tryz.prog 45 #[.int .u64 0] w fun e w' => e = .returned (.int .i64 (Lib.bitLen 0 : Nat)) /\ w' = w := by
  have h := Any.bits_Len (SlLaysF0.n15.bits (P := Tryz.prog) (ρ := Tryz.sort30_ren) { Tryz.sort30 with }) 0 w (by omega) (by omega)
  exact h
 have hp := pdq_nil (Lib.bitLen 0 : Nat) w
 generalize ((Lib.bitLen 0 : Nat) : Int) = m at *
 go_enter Tryz.func30, Tryz.ntmps30
 go_wp2_with fail
 refine hl.mono ?_
 rintro e w1 ⟨rfl, rfl⟩
 go_wp2_with fail
 refine hp.mono ?_
 rintro e w1 ⟨rfl, rfl⟩
 go_wp2_with fail
 go_end0
 exact ⟨rfl, rfl⟩
end YtdgfjdhobdfglaaGreatDoor
end Go.Proofs
namespace Go.Proofs.YtdgfjdhobdfglaaGreatDoor
open Go.RowKit Go.Lib
def letR (r : Int) : Bool := (decide (65 <= r) && decide (r <= 90)) || (decide (97 <= r) && decide (r <= 122)) || decide (r = 95)
def digR (r : Int) : Bool := decide (48 <= r) && decide (r <= 57)
def okR (i : Nat) (r : Int) : Bool := letR r || (decide (i ≠ 0) && (digR r || decide (r = 45)))
def prefN : Nat -> List UInt8 -> Nat
 | i, [] => i
 | i, c :: t => if okR i c.toNat = true then prefN (i + 1) t else i
def allN : Nat -> List UInt8 -> Bool
 | _, [] => true
 | i, c :: t => okR i c.toNat && allN (i + 1) t
theorem prefN_le : ∀ (l : List UInt8) (i : Nat), i <= prefN i l /\ prefN i l <= i + l.length
 | [], i => by simp [prefN]
 | c :: t, i => by
  have := prefN_le t (i + 1)
  rw [prefN]
  split
  ·rw [List.length_cons]; omega
  ·rw [List.length_cons]; omega
theorem prefN_all : ∀ (l : List UInt8) (i : Nat), (prefN i l = i + l.length) ↔ allN i l = true
 | [], i => by simp [prefN, allN]
 | c :: t, i => by
  rw [prefN, allN, List.length_cons, Bool.and_eq_true, <- prefN_all t (i + 1)]
  split
  ·rename_i h; rw [h]; simp only [true_and]; omega
  ·rename_i h
   have h1 : ¬ okR i c.toNat = true := h
   constructor
   ·intro h2; omega
   ·intro h2; exact absurd h2.1 h1
def plnN (l : List UInt8) : Bool := !l.isEmpty && allN 0 l
def nmT (l : List UInt8) : List UInt8 := if plnN l = true then l else Q.qt l
theorem okR_hi (i : Nat) (r : Int) (h : 128 <= r) : okR i r = false := by
 have h1 : decide (r <= 90) = false := by rw [decide_eq_false_iff_not]; omega
 have h2 : decide (r <= 122) = false := by rw [decide_eq_false_iff_not]; omega
 have h3 : decide (r = 95) = false := by rw [decide_eq_false_iff_not]; omega
 have h4 : decide (r <= 57) = false := by rw [decide_eq_false_iff_not]; omega
 have h5 : decide (r = 45) = false := by rw [decide_eq_false_iff_not]; omega
 simp only [okR, letR, digR, h1, h2, h3, h4, h5, Bool.and_false, Bool.or_false]
theorem drop_consN (s : ByteArray) (k : Nat) (h : k < s.size) : s.data.toList.drop k = s[k] :: s.data.toList.drop (k + 1) := by
 rw [List.drop_eq_getElem_cons (by simpa using h)]; rfl
theorem drop_endN (s : ByteArray) (k : Nat) (h : ¬ k < s.size) : s.data.toList.drop k = [] := List.drop_eq_nil_of_le (by simpa using Nat.le_of_not_lt h)
theorem prefN_yes (s : ByteArray) (k : Nat) (h : k < s.size) (ho : okR k (s[k]'h).toNat = true) : prefN k (s.data.toList.drop k) = prefN (k + 1) (s.data.toList.drop (k + 1)) := by
 rw [drop_consN s k h, prefN, if_pos ho]
theorem prefN_no (s : ByteArray) (k : Nat) (h : k < s.size) (ho : okR k (s[k]'h).toNat = false) : prefN k (s.data.toList.drop k) = k := by
 rw [drop_consN s k h, prefN, if_neg (by rw [ho]; decide)]
theorem prefN_end (s : ByteArray) (k : Nat) (h : ¬ k < s.size) : prefN k (s.data.toList.drop k) = k := by rw [drop_endN s k h, prefN]
theorem allN_yes (s : ByteArray) (k : Nat) (h : k < s.size) (ho : okR k (s[k]'h).toNat = true) : allN k (s.data.toList.drop k) = allN (k + 1) (s.data.toList.drop (k + 1)) := by
 rw [drop_consN s k h, allN, ho, Bool.true_and]
theorem allN_no (s : ByteArray) (k : Nat) (h : k < s.size) (ho : okR k (s[k]'h).toNat = false) : allN k (s.data.toList.drop k) = false := by
 rw [drop_consN s k h, allN, ho, Bool.false_and]
theorem allN_end (s : ByteArray) (k : Nat) (h : ¬ k < s.size) : allN k (s.data.toList.drop k) = true := by rw [drop_endN s k h, allN]
theorem okR_zero (r : Int) : okR 0 r = letR r := by simp [okR]
theorem okR_pos (i : Nat) (r : Int) (h : i ≠ 0) : okR i r = (letR r || digR r || decide (r = 45)) := by simp [okR, h, Bool.or_assoc]
theorem letR_up {r : Int} (a : 65 <= r) (b : r <= 90) : letR r = true := by simp [letR, a, b]
theorem letR_low {r : Int} (a : 97 <= r) (b : r <= 122) : letR r = true := by simp [letR, a, b]
theorem letR_us : letR 95 = true := by decide
theorem letR_not {r : Int} (a : ¬ (65 <= r /\ r <= 90)) (b : ¬ (97 <= r /\ r <= 122)) (c : r ≠ 95) : letR r = false := by
 rw [Bool.eq_false_iff]
 simp only [letR, ne_eq, Bool.or_eq_true, Bool.and_eq_true, decide_eq_true_eq]
 rintro ((h | h) | h)
 ·exact a h
 ·exact b h
 ·exact c h
set_option maxHeartbeats 8000000 in
theorem plet_any (r : Int) (w : World) : Calls Tryz.prog 140 #[.int .i32 r] w fun e w' => e = .returned (.bool (letR r)) /\ w' = w := by
 by_cases h95 : r = 95
 focus
  subst h95
  rw [letR_us]
 rotate_left 1
 focus
  have hb : (r == 95) = false := by rw [beq_eq_false_iff_ne]; exact h95
  by_cases a : 65 <= r
  focus
   by_cases b : r <= 90
   focus
    rw [letR_up a b]
    clear h95 hb
   rotate_left 1
   focus
    by_cases c : 97 <= r
    focus
     by_cases d : r <= 122
     focus
      rw [letR_low c d]
      clear h95 hb
     rotate_left 1
     focus
      rw [letR_not (by omega) (by omega) h95]
      clear h95
     rotate_left 1
    rotate_left 2
    focus
     rw [letR_not (by omega) (by omega) h95]
     clear h95
    rotate_left 1
   rotate_left 3
  rotate_left 4
  focus
   have c : ¬ 97 <= r := by omega
   rw [letR_not (by omega) (by omega) h95]
   clear h95
  rotate_left 1
 rotate_left 5
 all_goals
  go_enter Tryz.func140, Tryz.ntmps140
  go_wp2
  go_ret
  exact ⟨rfl, rfl⟩
theorem pdig_any (r : Int) (w : World) : Calls Tryz.prog 141 #[.int .i32 r] w fun e w' => e = .returned (.bool (digR r)) /\ w' = w := by
 by_cases a : 48 <= r
 focus
  by_cases b : r <= 57
  focus
   rw [show digR r = true by simp [digR, a, b]]
  rotate_left 1
  focus
   rw [show digR r = false by simp [digR, a]; omega]
  rotate_left 1
 rotate_left 2
 focus
  rw [show digR r = false by simp [digR, a]]
 rotate_left 1
 all_goals
  go_enter Tryz.func141, Tryz.ntmps141
  go_wp2
  go_ret
  exact ⟨rfl, rfl⟩
theorem dec_ok (s : ByteArray) (pos : Nat) (h : pos < s.size) (ho : okR pos ((Utf8.decode s pos).1 : Int) = true) : (Utf8.decode s pos).2 = 1 /\ prefN pos (s.data.toList.drop pos) = prefN (pos + 1) (s.data.toList.drop (pos + 1)) := by
 by_cases ha : (s[pos]'h).toNat < 128
 ·rw [decode_ascii s pos h ha] at ho ⊢
  exact ⟨rfl, prefN_yes s pos h ho⟩
 ·have := (decode_high s pos h (by omega)).1
  rw [okR_hi _ _ (by omega)] at ho
  exact absurd ho (by decide)
theorem dec_no (s : ByteArray) (pos : Nat) (h : pos < s.size) (ho : okR pos ((Utf8.decode s pos).1 : Int) = false) : prefN pos (s.data.toList.drop pos) = pos := by
 by_cases ha : (s[pos]'h).toNat < 128
 ·rw [decode_ascii s pos h ha] at ho
  exact prefN_no s pos h ho
 ·exact prefN_no s pos h (okR_hi _ _ (by omega))
theorem below_iter (w : World) (s : ByteArray) (p : Nat) : Below w.heap.size w (w.iter s p) := (Below.refl _ w).alloc (Nat.le_refl _) _
theorem hmkN {p : Prop} (h : p) : Hid p := h
set_option maxRecDepth 100000 in
set_option maxHeartbeats 8000000 in
theorem ahead_any (s : ByteArray) (w : World) (hs : s.size <= 281474976710656) :
 Calls Tryz.prog 120 #[.string s] w fun e w' => e = .returned (.int .i64 (prefN 0 s.data.toList)) /\ Below w.heap.size w w' := by
 have HF : prefN 0 (s.data.toList.drop 0) = prefN 0 s.data.toList := by rw [List.drop_zero]
 generalize prefN 0 s.data.toList = F at *
 go_enter Tryz.func120, Tryz.ntmps120
 go_wp2
 go_loopw [3] (fun _ wr => ∃ pos, wr = w.iter s pos /\ pos <= s.size /\ prefN pos (s.data.toList.drop pos) = F) (fun _ wr => s.size - wr.iterPos w.heap.size)
 case atStart => exact ⟨0, rfl, Nat.zero_le _, HF⟩
 case round =>
  obtain ⟨pos, rfl, hle, hf⟩ := hrel
  clear HF
  by_cases hp : pos < s.size
  ·have hnx : ∀ ty, (Instr.next (.pointer (some ⟨w.heap.size, 0, none⟩)) true ty).run Tryz.prog (w.iter s pos) = _ := fun ty => run_next_any w s pos ty hp
   have HY := hmkN (dec_ok s pos hp)
   have HN := hmkN (dec_no s pos hp)
   generalize (Utf8.decode s pos).1 = r at *
   generalize (Utf8.decode s pos).2 = d at *
   have CL := plet_any r (w.iter s (pos + d))
   have CD := pdig_any r (w.iter s (pos + d))
   cases hL : letR r with
   | true =>
    have HO := hmkN (HY.out (by rw [okR, hL, Bool.true_or]))
    obtain ⟨hd, he⟩ := HO.out
    subst hd
    rw [hL] at CL
    rw [he] at hf
    clear CD HY HN HO hL he
    go_wp2_with (go_at_call 140; refine CL.mono ?_; rintro e w' ⟨rfl, rfl⟩)
    go_roundw
    case rel => exact ⟨pos + 1, rfl, hp, hf⟩
    case measure => simp; omega
   | false =>
    rw [hL] at CL
    by_cases h0 : pos = 0
    ·have hr := HN.out (by rw [okR, hL, h0]; rfl)
     rw [hr] at hf
     subst hf
     have hb0 : ((pos : Int) == 0) = true := by rw [h0]; rfl
     clear CD HY HN hL hr hle hs h0
     go_wp2_with (go_at_call 140; refine CL.mono ?_; rintro e w' ⟨rfl, rfl⟩)
     go_ret
     exact ⟨rfl, below_iter _ _ _⟩
    ·have hb0 : ((pos : Int) == 0) = false := by rw [beq_eq_false_iff_ne]; omega
     cases hD : digR r with
     | true =>
      obtain ⟨hd, he⟩ := HY.out (by rw [okR_pos _ _ h0, hL, hD]; rfl)
      subst hd
      rw [hD] at CD
      rw [he] at hf
      clear HY HN hL hD he h0
      go_wp2_with (first | (go_at_call 140; refine CL.mono ?_; rintro e w' ⟨rfl, rfl⟩) | (go_at_call 141; refine CD.mono ?_; rintro e w' ⟨rfl, rfl⟩))
      go_roundw
      case rel => exact ⟨pos + 1, rfl, hp, hf⟩
      case measure => simp; omega
     | false =>
      rw [hD] at CD
      by_cases h45 : (r : Int) = 45
      ·obtain ⟨hd, he⟩ := HY.out (by rw [okR_pos _ _ h0, hL, hD, h45]; rfl)
       subst hd
       rw [he] at hf
       rw [h45] at CL CD hnx
       clear HY HN hL hD he h0 h45
       go_wp2_with (first | (go_at_call 140; refine CL.mono ?_; rintro e w' ⟨rfl, rfl⟩) | (go_at_call 141; refine CD.mono ?_; rintro e w' ⟨rfl, rfl⟩))
       go_roundw
       case rel => exact ⟨pos + 1, rfl, hp, hf⟩
       case measure => simp; omega
      ·have hr := HN.out (by rw [okR_pos _ _ h0, hL, hD]; simp only [Bool.false_or, decide_eq_false_iff_not]; exact h45)
       have hb5 : ((r : Int) == 45) = false := by rw [beq_eq_false_iff_ne]; exact h45
       have hb6 : ((r : Int) != 45) = true := by rw [bne_iff_ne]; exact h45
       rw [hr] at hf
       subst hf
       clear HY HN hL hD hr hle hs h0 h45
       go_wp2_with (first | (go_at_call 140; refine CL.mono ?_; rintro e w' ⟨rfl, rfl⟩) | (go_at_call 141; refine CD.mono ?_; rintro e w' ⟨rfl, rfl⟩))
       go_ret
       exact ⟨rfl, below_iter _ _ _⟩
  ·have hnx : ∀ ty, (Instr.next (.pointer (some ⟨w.heap.size, 0, none⟩)) true ty).run Tryz.prog (w.iter s pos) = _ := fun ty => run_next_end w s pos ty hp
   have hq : F = s.size := by rw [<- hf, prefN_end s pos hp]; omega
   subst hq
   clear hf
   go_wp2
   go_ret
   exact ⟨rfl, below_iter _ _ _⟩
end Go.Proofs.YtdgfjdhobdfglaaGreatDoor
set_option maxHeartbeats 64000000
namespace Go.Proofs.YtdgfjdhobdfglaaGreatDoor
open Go.RowKit Go.Lib
theorem rfst_any (r : Int) (w : World) : Calls Tryz.prog 81 #[.int .u8 r] w fun e w' => e = .returned (.bool (letR r)) /\ w' = w := by
 by_cases h95 : r = 95
 focus
  subst h95
  rw [letR_us]
 rotate_left 1
 focus
  have hb : (r == 95) = false := by rw [beq_eq_false_iff_ne]; exact h95
  by_cases c : 97 <= r
  focus
   by_cases d : r <= 122
   focus
    rw [letR_low c d]
    clear h95 hb
   rotate_left 1
   focus
    have a : 65 <= r := by omega
    have b : ¬ r <= 90 := by omega
    rw [letR_not (by omega) (by omega) h95]
    clear h95
   rotate_left 1
  rotate_left 2
  focus
   by_cases a : 65 <= r
   focus
    by_cases b : r <= 90
    focus
     rw [letR_up a b]
     clear h95 hb
    rotate_left 1
    focus
     rw [letR_not (by omega) (by omega) h95]
     clear h95
    rotate_left 1
   rotate_left 2
   focus
    rw [letR_not (by omega) (by omega) h95]
    clear h95
   rotate_left 1
  rotate_left 3
 rotate_left 5
 all_goals
  go_enter Tryz.func81, Tryz.ntmps81
  go_wp2
  go_ret
  exact ⟨rfl, rfl⟩
def latR (r : Int) : Bool := letR r || digR r || decide (r = 45)
theorem rlat_any (r : Int) (w : World) : Calls Tryz.prog 82 #[.int .u8 r] w fun e w' => e = .returned (.bool (latR r)) /\ w' = w := by
 have CF := rfst_any r w
 cases hL : letR r with
 | true =>
  rw [show latR r = true by rw [latR, hL]; rfl]
  rw [hL] at CF
  clear hL
  go_enter Tryz.func82, Tryz.ntmps82
  go_wp2_with (go_at_call 81; refine CF.mono ?_; rintro e w' ⟨rfl, rfl⟩)
  go_ret
  exact ⟨rfl, rfl⟩
 | false =>
  rw [hL] at CF
  by_cases a : 48 <= r
  ·by_cases b : r <= 57
   ·rw [show latR r = true by rw [latR, hL, show digR r = true by simp [digR, a, b]]; rfl]
    clear hL
    go_enter Tryz.func82, Tryz.ntmps82
    go_wp2_with (go_at_call 81; refine CF.mono ?_; rintro e w' ⟨rfl, rfl⟩)
    go_ret
    exact ⟨rfl, rfl⟩
   ·have hb : (r == 45) = false := by rw [beq_eq_false_iff_ne]; omega
    rw [show latR r = false by rw [latR, hL, show digR r = false by simp [digR, a]; omega]; simp; omega]
    clear hL
    go_enter Tryz.func82, Tryz.ntmps82
    go_wp2_with (go_at_call 81; refine CF.mono ?_; rintro e w' ⟨rfl, rfl⟩)
    go_ret
    exact ⟨by show Ending.returned (.bool (decide (r <= 57))) = _; rw [decide_eq_false (Int.not_le.2 b)], rfl⟩
  ·have hD : digR r = false := by simp [digR, a]
   by_cases h45 : r = 45
   focus
    subst h45
    rw [show latR 45 = true by decide]
    clear hL hD
   rotate_left 1
   focus
    have hb : (r == 45) = false := by rw [beq_eq_false_iff_ne]; exact h45
    rw [show latR r = false by rw [latR, hL, hD]; simpa using h45]
    clear hL hD h45
   rotate_left 1
   all_goals
    go_enter Tryz.func82, Tryz.ntmps82
    go_wp2_with (go_at_call 81; refine CF.mono ?_; rintro e w' ⟨rfl, rfl⟩)
    go_ret
    exact ⟨rfl, rfl⟩
theorem plnN_nil {s : ByteArray} (h : ¬ 0 < s.size) : plnN s.data.toList = false := by
 have : s.data.toList = [] := by have := drop_endN s 0 h; rwa [List.drop_zero] at this
 rw [this]; rfl
theorem plnN_all {s : ByteArray} (h : 0 < s.size) : plnN s.data.toList = allN 0 (s.data.toList.drop 0) := by
 rw [List.drop_zero]
 have := drop_consN s 0 h
 rw [List.drop_zero] at this
 rw [plnN, this]; rfl
theorem str_nil {s : ByteArray} (h : ¬ 0 < s.size) : s = ⟨#[]⟩ := by
 have : s.data.toList = [] := by have := drop_endN s 0 h; rwa [List.drop_zero] at this
 apply ByteArray.ext
 apply Array.ext'
 rw [this]
theorem str_ne {s : ByteArray} (h : 0 < s.size) : s.toList.isEmpty = false := by
 rw [ByteArray.toList_eq]
 have := drop_consN s 0 h
 rw [List.drop_zero] at this
 rw [this]; rfl
set_option maxRecDepth 100000 in
set_option maxHeartbeats 8000000 in
theorem rplain_any (s : ByteArray) (w : World) (hs : s.size <= 281474976710656) :
 Calls Tryz.prog 86 #[.string s] w fun e w' => e = .returned (.bool (plnN s.data.toList)) /\ w' = w := by
 by_cases h0 : 0 < s.size
 case neg =>
  rw [plnN_nil h0]
  have e := str_nil h0
  subst e
  go_enter Tryz.func86, Tryz.ntmps86
  go_wp2
  go_ret
  exact ⟨rfl, rfl⟩
 rw [plnN_all h0]
 have hne := str_ne h0
 have CF := rfst_any (s[0]'h0).toNat w
 have CT : ∀ r : Int, Calls Tryz.prog 82 #[.int .u8 r] w fun e w' => e = .returned (.bool (latR r)) /\ w' = w := fun r => rlat_any r w
 cases hL : letR (s[0]'h0).toNat with
 | false =>
  rw [allN_no s 0 h0 (by rw [okR_zero]; exact hL)]
  rw [hL] at CF
  have y0 : (0 : Int) < s.size := by omega
  clear hL CT
  go_enter Tryz.func86, Tryz.ntmps86
  go_wp2_with (go_at_call 81; refine CF.mono ?_; rintro e w' ⟨rfl, rfl⟩)
  go_ret
  exact ⟨rfl, rfl⟩
 | true =>
  rw [allN_yes s 0 h0 (by rw [okR_zero]; exact hL)]
  rw [hL] at CF
  have y0 : (0 : Int) < s.size := by omega
  generalize hF : allN (0 + 1) (s.data.toList.drop (0 + 1)) = F
  clear hL
  go_enter Tryz.func86, Tryz.ntmps86
  go_wp2_with fail
  refine CF.mono ?_
  rintro e w' ⟨rfl, rfl⟩
  go_wp2_with fail
  go_loopw [3] (fun i wr => ∃ k : Nat, 1 <= k /\ k <= s.size /\ i = .int .i64 k /\ wr = w' /\ allN k (s.data.toList.drop k) = F) (fun i _ => s.size - (RowKit.intOf i).toNat)
  case atStart => exact ⟨1, Nat.le_refl _, h0, rfl, rfl, hF⟩
  case round =>
   obtain ⟨k, hk1, hk, rfl, rfl, hf⟩ := hrel
   clear hF CF
   by_cases hlt : k < s.size
   ·have y1 : (k : Int) < s.size := by omega
    have C := CT (s[k]'hlt).toNat
    have HO := hmkN (okR_pos k (s[k]'hlt).toNat (by omega))
    cases hL : latR (s[k]'hlt).toNat with
    | true =>
     rw [allN_yes s k hlt (by rw [HO.out]; exact hL)] at hf
     rw [hL] at C
     clear hL CT HO
     go_wp2_with (go_at_call 82; refine C.mono ?_; rintro e w' ⟨rfl, rfl⟩)
     go_roundw
     case rel => exact ⟨k + 1, by omega, by omega, by simp, trivial, hf⟩
     case measure => simp [RowKit.intOf]; omega
    | false =>
     rw [allN_no s k hlt (by rw [HO.out]; exact hL)] at hf
     subst hf
     rw [hL] at C
     clear hL CT HO
     go_wp2_with (go_at_call 82; refine C.mono ?_; rintro e w' ⟨rfl, rfl⟩)
     go_ret
     exact ⟨rfl, rfl⟩
   ·have y1 : ¬ (k : Int) < s.size := by omega
    rw [allN_end s k hlt] at hf
    subst hf
    clear CT
    go_wp2
    go_ret
    exact ⟨rfl, rfl⟩
end Go.Proofs.YtdgfjdhobdfglaaGreatDoor
