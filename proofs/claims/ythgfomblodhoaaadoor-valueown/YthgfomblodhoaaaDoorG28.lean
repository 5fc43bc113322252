/- joined: SrtA BldA -/
import Derived.Shelf.SlSortCmp.WholeK
import Derived.Shelf.SlicesE.Clone
import Derived.Test.YthgfomblodhoaaaDoorG26
/- slices.Clone and slices.SortFunc over members, by the library's contracts, laid at this program. -/
set_option linter.unusedSimpArgs false
set_option linter.unusedVariables false
namespace Go.Proofs
open Go.Shelf Go.RowKit
def Tryd.sort62_ren : Go.Shelf.Ren := ⟨fun | 6 => 32 | 14 => 47 | 15 => 48 | 20 => 61 | 21 => 62 | 22 => 63 | 23 => 64 | 24 => 65 | 25 => 66 | 26 => 67 | 27 => 68 | 28 => 69 | 29 => 70 | 46 => 76 | 47 => 77 | 48 => 78 | 49 => 79 | 50 => 80 | 57 => 82 | n => n, fun | 0 => 0 | 3 => 3 | 4 => 4 | 5 => 5 | 9 => 9 | 22 => 23 | 24 => 38 | 25 => 63 | 39 => 73 | 45 => 83 | 46 => 84 | 50 => 65 | 53 => 90 | 55 => 92 | 66 => 94 | 70 => 98 | 76 => 105 | 77 => 106 | n => n, fun | n => n⟩
theorem Tryd.sort62 : Go.Proofs.SlLaysF0.n6 Tryd.prog Tryd.sort62_ren := {
  mixed := by kernel_rfl
  f6 := ⟨Tryd.f32.name, by kernel_rfl, Tryd.func32.trans (congrArg some (by kernel_rfl))⟩
  f14 := ⟨Tryd.f47.name, by kernel_rfl, Tryd.func47.trans (congrArg some (by kernel_rfl))⟩
  f15 := Tryd.func48.trans (congrArg some (by kernel_rfl))
  f20 := ⟨Tryd.f61.name, by kernel_rfl, Tryd.func61.trans (congrArg some (by kernel_rfl))⟩
  f21 := ⟨Tryd.f62.name, by kernel_rfl, Tryd.func62.trans (congrArg some (by kernel_rfl))⟩
  f22 := ⟨Tryd.f63.name, by kernel_rfl, Tryd.func63.trans (congrArg some (by kernel_rfl))⟩
  f23 := ⟨Tryd.f64.name, by kernel_rfl, Tryd.func64.trans (congrArg some (by kernel_rfl))⟩
  f24 := ⟨Tryd.f65.name, by kernel_rfl, Tryd.func65.trans (congrArg some (by kernel_rfl))⟩
  f25 := ⟨Tryd.f66.name, by kernel_rfl, Tryd.func66.trans (congrArg some (by kernel_rfl))⟩
  f26 := ⟨Tryd.f67.name, by kernel_rfl, Tryd.func67.trans (congrArg some (by kernel_rfl))⟩
  f27 := ⟨Tryd.f68.name, by kernel_rfl, Tryd.func68.trans (congrArg some (by kernel_rfl))⟩
  f28 := Tryd.func69.trans (congrArg some (by kernel_rfl))
  f29 := Tryd.func70.trans (congrArg some (by kernel_rfl))
  f46 := ⟨Tryd.f76.name, by kernel_rfl, Tryd.func76.trans (congrArg some (by kernel_rfl))⟩
  f47 := Tryd.func77.trans (congrArg some (by kernel_rfl))
  f48 := Tryd.func78.trans (congrArg some (by kernel_rfl))
  f49 := ⟨Tryd.f79.name, by kernel_rfl, Tryd.func79.trans (congrArg some (by kernel_rfl))⟩
  f50 := ⟨Tryd.f80.name, by kernel_rfl, Tryd.func80.trans (congrArg some (by kernel_rfl))⟩
  f57 := ⟨Tryd.f82.name, by kernel_rfl, Tryd.func82.trans (congrArg some (by kernel_rfl))⟩
  t0 := Tryd.underlying0
  a0 := Tryd.isAgg0
  z0 := Tryd.sizeOf0
  v0 := Tryd.zeroValue0
  t3 := Tryd.underlying3
  a3 := Tryd.isAgg3
  z3 := Tryd.sizeOf3
  v3 := Tryd.zeroValue3
  t4 := Tryd.underlying4
  a4 := Tryd.isAgg4
  z4 := Tryd.sizeOf4
  v4 := Tryd.zeroValue4
  t5 := Tryd.underlying5
  a5 := Tryd.isAgg5
  z5 := Tryd.sizeOf5
  v5 := Tryd.zeroValue5
  t9 := Tryd.underlying9
  a9 := Tryd.isAgg9
  z9 := Tryd.sizeOf9
  v9 := Tryd.zeroValue9
  t22 := Tryd.underlying23
  a22 := Tryd.isAgg23
  z22 := Tryd.sizeOf23
  v22 := Tryd.zeroValue23
  t25 := Tryd.underlying63
  a25 := Tryd.isAgg63
  z25 := Tryd.sizeOf63
  v25 := Tryd.zeroValue63
  t39 := Tryd.underlying73
  a39 := Tryd.isAgg73
  z39 := Tryd.sizeOf73
  v39 := Tryd.zeroValue73
  t45 := Tryd.underlying83
  a45 := Tryd.isAgg83
  z45 := Tryd.sizeOf83
  v45 := Tryd.zeroValue83
  t46 := Tryd.underlying84
  a46 := Tryd.isAgg84
  z46 := Tryd.sizeOf84
  v46 := Tryd.zeroValue84
  t50 := Tryd.underlying65
  a50 := Tryd.isAgg65
  z50 := Tryd.sizeOf65
  v50 := Tryd.zeroValue65
  t53 := Tryd.underlying90
  a53 := Tryd.isAgg90
  z53 := Tryd.sizeOf90
  v53 := Tryd.zeroValue90
  t55 := Tryd.underlying92
  a55 := Tryd.isAgg92
  z55 := Tryd.sizeOf92
  v55 := Tryd.zeroValue92
  t66 := Tryd.underlying94
  a66 := Tryd.isAgg94
  z66 := Tryd.sizeOf94
  v66 := Tryd.zeroValue94
  t70 := Tryd.underlying98
  a70 := Tryd.isAgg98
  z70 := Tryd.sizeOf98
  v70 := Tryd.zeroValue98
  t76 := Tryd.underlying105
  a76 := Tryd.isAgg105
  z76 := Tryd.sizeOf105
  v76 := Tryd.zeroValue105
  t77 := Tryd.underlying106
  a77 := Tryd.isAgg106
  z77 := Tryd.sizeOf106
  v77 := Tryd.zeroValue106 }
def Tryd.clone61_ren : Go.Shelf.Ren := ⟨fun | 41 => 31 | n => n, fun | 4 => 4 | 22 => 23 | 23 => 38 | n => n, fun | n => n⟩
theorem Tryd.clone61 : Go.Proofs.SlLaysE0.n41 Tryd.prog Tryd.clone61_ren := {
  mixed := by kernel_rfl
  f41 := ⟨Tryd.f31.name, by kernel_rfl, Tryd.func31.trans (congrArg some (by kernel_rfl))⟩
  t4 := Tryd.underlying4
  a4 := Tryd.isAgg4
  z4 := Tryd.sizeOf4
  v4 := Tryd.zeroValue4
  t22 := Tryd.underlying23
  a22 := Tryd.isAgg23
  z22 := Tryd.sizeOf23
  v22 := Tryd.zeroValue23 }
namespace YthgfomblodhoaaaDoor
open Go.Lib Go.Sort
set_option maxHeartbeats 1000000 in
set_option maxRecDepth 100000 in
/-- the comparison that Build hands over -/
theorem bldcmp_any (x y : MC) (W : World) : Calls Tryd.prog 33 #[.agg x.enc.toArray, .agg y.enc.toArray] W fun e w' => e = .returned (.int .i64 (MC.cmp x y)) ∧ ∃ q os', w' = grow (W.drewN q) os' := by
  obtain ⟨key, v, ek, eb, ei, es, eal, enl, ecl, eam, enm, ecm⟩ := x
  obtain ⟨key', v', ek', eb', ei', es', eal', enl', ecl', eam', enm', ecm'⟩ := y
  have hc : ∀ W', Calls Tryd.prog 34 #[.string key, .string key'] W' fun e w' => e = .returned (.int .i64 (cmpS key key')) ∧ w' = W' := fun W' => Any.strings_Compare Tryd.lays106 key key' W'
  show Calls Tryd.prog 33 #[.agg #[.string key, .int .i64 ek, .bool eb, .int .i64 ei, .string es, .slice eal enl ecl, .slice eam enm ecm], .agg #[.string key', .int .i64 ek', .bool eb', .int .i64 ei', .string es', .slice eal' enl' ecl', .slice eam' enm' ecm']] W fun e w' => e = .returned (.int .i64 (cmpS key key')) ∧ ∃ q os', w' = grow (W.drewN q) os'
  generalize cmpS key key' = c at *
  go_enter Tryd.func33, Tryd.ntmps33
  go_wp2_with fail
  refine (hc _).mono ?_
  rintro e w3 ⟨rfl, rfl⟩
  go_wp2_with fail
  go_ret
  exact ⟨rfl, 0, _, by rw [alloc_eq_grow, alloc_eq_grow, grow_grow]; rfl⟩
/-- slices.Clone of members -/
theorem mclone_any (d : List MC) (b off c : Nat) (w : World) (hr : ∀ (j : Nat) (h : j < d.length), rowAt w b (off + j * 7) (d[j]).enc) (hn : d.length ≤ 1099511627776) :
    Calls Tryd.prog 31 #[.slice (some ⟨b, off, none⟩) d.length c] w fun e w' => ∃ g cap, e = .returned (.slice (some ⟨g, 0, none⟩) d.length cap) ∧ w.heap.size ≤ g ∧ g < w'.heap.size ∧ d.length ≤ cap ∧ cap ≤ maxLen ∧ HoldsK MC.enc 7 w' g 0 d.toArray ∧ Below w.heap.size w w' := by
  obtain ⟨i0, hi0, hz0, hz1, hz2⟩ := info_parts info44
  have hmax : d.length ≤ maxLen := Nat.le_trans hn (by decide)
  have hcon := AnyE.slices_Clone Tryd.clone61 i0 _ 7 104 hi0 hz0 hz1 hz2 rfl (by omega) Tryd.sizeOf38 b off d.length c (flatK MC.enc 7 d.toArray).toList w (by simp) hmax (by omega) (fun j u hu => flat_row hr j u hu) flat_one
  change Calls Tryd.prog 31 _ _ _ at hcon
  refine hcon.mono ?_
  rintro e w' ⟨v', rfl, ho, hne, hb⟩
  obtain ⟨_, ho⟩ := ho
  rcases ho with ⟨rfl, _⟩ | ⟨g, cap, cur, rfl, hg, hblk, hle, hm, hcs, hpre⟩
  · exact absurd rfl hne
  · have hlt : g < w'.heap.size := by
      rcases Nat.lt_or_ge g w'.heap.size with h | h
      · exact h
      · rw [Array.getElem?_eq_none h] at hblk; cases hblk
    refine ⟨g, cap, rfl, hg, hlt, hle, hm, ?_, hb⟩
    intro j hj
    have hj' : j < d.length * 7 := by simpa using hj
    refine ⟨?_, ?_⟩
    · rw [Nat.zero_add, cell_of_block hblk, ← Array.getElem?_toList]
      have e1 : cur.toList[j]? = (cur.toList.take (d.length * 7))[j]? := by rw [List.getElem?_take, if_pos hj']
      rw [e1, hpre, Array.getElem?_toList, Array.getElem?_eq_getElem hj, getElem!_pos (flatK MC.enc 7 d.toArray) j hj]
      rfl
    · exact frozen_of_block hblk _
/-- slices.SortFunc of members, by their keys -/
theorem msort_any (d : List MC) (g cap : Nat) (w : World) (hH : HoldsK MC.enc 7 w g 0 d.toArray) (hg : g < w.heap.size) (hn : d.length ≤ 1099511627776) :
    Calls Tryd.prog 32 #[.slice (some ⟨g, 0, none⟩) d.length cap, .func (.func 33) #[] #[]] w fun e w' => e = .returned (.tuple #[]) ∧ ∃ d' : List MC, d'.Perm d ∧ d'.Pairwise (fun a b => ltB b.key a.key = false) ∧ (∀ (j : Nat) (h : j < d'.length), rowAt w' g (0 + j * 7) (d'[j]).enc) ∧ (∀ B, B ≤ g → Below B w w') := by
  have eg : ∀ args w, (callFunc 33 args).run Tryd.prog w = .ok (.enter 33 args) w := enters_of Tryd.func33 (by kernel_rfl) rfl
  have hcon := AnyQ.slices_SortFunc Tryd.sort62 7 Tryd.isAgg38 Tryd.sizeOf38 MC.enc MC.len MC.one MC.cmp mc_swo 33 #[] g 0 cap d.toArray w eg (fun m os dk hs x y => bldcmp_any x y _) hH hg (by simp; omega)
  have e0 : d.toArray.size = d.length := by simp
  rw [e0] at hcon
  change Calls Tryd.prog 32 _ _ _ at hcon
  refine hcon.mono ?_
  rintro e w' ⟨rfl, d', n, os, ⟨hs, _, hp⟩, hsrt, rfl⟩
  have hs' : d'.size = d.length := by rw [hs]; simp
  refine ⟨rfl, d'.toList, ?_, ?_, ?_, fun B hB => sortW_below hB (by omega)⟩
  · have h1 : d'.extract 0 d.length = d' := by rw [← hs']; simp
    have h2 : d.toArray.extract 0 d.length = d.toArray := by rw [← e0]; simp
    rw [h1, h2] at hp
    exact hp
  · refine List.pairwise_iff_getElem.2 fun i j hi hj hij => ?_
    have hi' : i < d'.size := by simpa using hi
    have hj' : j < d'.size := by simpa using hj
    have := hsrt i j (Nat.zero_le _) hij (by omega)
    rw [mc_lt, getElem!_pos d' i hi', getElem!_pos d' j hj'] at this
    exact this
  · exact rows_of_holds (holdsK_sortWorldK_c MC.enc 7 w g 0 d.toArray d' n os hH hg (by rw [hs]))
end YthgfomblodhoaaaDoor
end Go.Proofs
/- value.Build. -/
namespace Go.Proofs.YthgfomblodhoaaaDoor
open Go.RowKit Go.Lib
theorem wtM_perm {l l' : List Mem} (h : l.Perm l') : wtM l = wtM l' := by
  induction h with
  | nil => rfl
  | cons x _ ih => obtain ⟨k, v⟩ := x; simp only [wtM]; omega
  | swap x y l => obtain ⟨k, v⟩ := x; obtain ⟨k', v'⟩ := y; simp only [wtM]; omega
  | trans _ _ ih1 ih2 => omega
def bldOk (l : List Mem) : Bool := l.all (fun m => okV m.2)
def Wkl (l : List Mem) : Prop := l.Pairwise (fun a b => ltB b.1 a.1 = false)
def BldPost (l : List Mem) (w : World) (e : Ending) (w' : World) : Prop :=
  (bldOk l = false ∧ VePost nullV 20 w e w') ∨ (bldOk l = true ∧ ∃ l', l'.Perm l ∧ Wkl l' ∧ VePost (mapV l') (mapE l') w e w')
theorem bld_no {l : List Mem} {j : Nat} (hj : j < l.length) (h : okV (l[j]).2 = false) : bldOk l = false := by
  rw [bldOk, List.all_eq_false]; exact ⟨l[j], List.getElem_mem hj, by simp [h]⟩
theorem bld_yes {l : List Mem} (h : ∀ (j : Nat) (hj : j < l.length), okV (l[j]).2 = true) : bldOk l = true := by
  rw [bldOk, List.all_eq_true]
  intro x hx
  obtain ⟨j, hj, rfl⟩ := List.getElem_of_mem hx
  exact h j hj
set_option maxHeartbeats 1600000 in
set_option maxRecDepth 100000 in
theorem build_wide (l : List Mem) (R : Bool) (S : Nat → Prop) (am : Option Addr) (cm bm om : Nat) (w : World) (tb : Tb w) (hat : am = some ⟨bm, om, none⟩) (hl : liesM R w S l bm om) (hS : ∀ b, S b → b < w.heap.size) (hwt : wtM l ≤ 281474976000000) (hwv : ∀ x ∈ l, x.2.wt ≤ 1099511627776) (hln : l.length ≤ 1099511627776) :
    Calls Tryd.prog 10 #[.slice am l.length cm] w (BldPost l w) := by
  have hlen := wtM_len l
  subst hat
  have hz0 := alloc_size w (.cells #[.int .i64 0, .bool false, .int .i64 0, .string ⟨#[]⟩, .slice none 0 0, .slice none 0 0] 25)
  have B0 : Below w.heap.size w (w.alloc (.cells #[.int .i64 0, .bool false, .int .i64 0, .string ⟨#[]⟩, .slice none 0 0, .slice none 0 0] 25)) := (Below.refl _ _).alloc (Nat.le_refl _) _
  have h0 := heap_alloc_new w (.cells #[.int .i64 0, .bool false, .int .i64 0, .string ⟨#[]⟩, .slice none 0 0, .slice none 0 0] 25)
  have HM : Hid (∀ W, Below w.heap.size w W → liesM R W S l bm om ∧ (∀ b, S b → b < W.heap.size)) := fun W hb => ⟨liesM_keep (fun h => h) (fun x hx => hb.block x (hS x hx)) (fun _ h => h) _ hl, fun x hx => Nat.lt_of_lt_of_le (hS x hx) hb.size⟩
  have HB : Hid (∀ W, Below w.heap.size w W → Tb W) := fun W hb => tb.below hb tb.z
  have HW : Hid (∀ j (h : j < l.length), (l[j]).2.wt ≤ 1099511627776) := fun j h => hwv _ (List.getElem_mem h)
  clear hl tb
  go_enter Tryd.func10, Tryd.ntmps10
  go_wp2_with fail
  generalize (w.alloc (.cells #[.int .i64 0, .bool false, .int .i64 0, .string ⟨#[]⟩, .slice none 0 0, .slice none 0 0] 25)) = w0 at *
  have K0 : Hid (∀ W, Below w0.heap.size w0 W → Below w.heap.size w W ∧ W.heap[w.heap.size]? = some (.cells #[.int .i64 0, .bool false, .int .i64 0, .string ⟨#[]⟩, .slice none 0 0, .slice none 0 0] 25 (0, 0))) := fun W hb => ⟨B0.trans (hb.mono (by omega)), (hb.block _ (by omega)).trans h0⟩
  clear h0 B0
  go_loopw [8] (fun e wr => ∃ j : Nat, j ≤ l.length ∧ e = .int .i64 (j : Int) ∧ Hid (∀ i (h : i < l.length), i < j → okV (l[i]).2 = true) ∧ Hid (Below w0.heap.size w0 wr)) (fun e _ => l.length - (RowKit.intOf e).toNat)
  case atStart => exact ⟨0, by omega, rfl, (fun i hi hij => by omega), Below.refl _ _⟩
  case round =>
    obtain ⟨j, hj, rfl, HO, bj⟩ := hrel
    have hzr := bj.out.size
    obtain ⟨Bj, tj⟩ := K0.out wr bj.out
    by_cases hjl : j < l.length
    · have y1 : (j : Int) < l.length := by omega
      obtain ⟨hSb, hks, csj, hrow, hlj⟩ := liesM_get (HM.out wr Bj).1 j hjl
      have HJ : Hid ((l[j]).2.lies R wr S csj) := hlj
      obtain ⟨ek, eb, ei, es, eal, enl, ecl, eam, enm, ecm, rfl⟩ := V.ten hlj
      obtain ⟨ekey, hek⟩ : ∃ ekey, (l[j]).1 = ekey := ⟨_, rfl⟩
      rw [hek] at hrow
      obtain ⟨q, q0, q1, q2, q3, q4, q5⟩ := row7 hrow
      have hza := alloc_size wr (.cells #[.string ekey, .int .i64 ek, .bool eb, .int .i64 ei, .string es, .slice eal enl ecl, .slice eam enm ecm] 38)
      have ba : Below wr.heap.size wr (wr.alloc (.cells #[.string ekey, .int .i64 ek, .bool eb, .int .i64 ei, .string es, .slice eal enl ecl, .slice eam enm ecm] 38)) := (Below.refl _ _).alloc (Nat.le_refl _) _
      have HC : Hid (Calls Tryd.prog 30 #[.agg #[.int .i64 ek, .bool eb, .int .i64 ei, .string es, .slice eal enl ecl, .slice eam enm ecm]] (wr.alloc (.cells #[.string ekey, .int .i64 ek, .bool eb, .int .i64 ei, .string es, .slice eal enl ecl, .slice eam enm ecm] 38)) (BPost (okV (l[j]).2) (wr.alloc (.cells #[.string ekey, .int .i64 ek, .bool eb, .int .i64 ei, .string es, .slice eal enl ecl, .slice eam enm ecm] 38)))) :=
        taken_any R (l[j]).2 S _ _ (HB.out _ (Bj.trans (ba.mono Bj.size))) (V.lies_keep (fun h => h) (fun x hx => ba.block x ((HM.out wr Bj).2 x hx)) (fun _ h => h) _ HJ.out) (fun x hx => by have := (HM.out wr Bj).2 x hx; omega) (HW.out j hjl)
      have bz := bj.out.trans (ba.mono hzr)
      clear hlj hrow HJ hek ba
      go_wp2_with fail
      clear q q0 q1 q2 q3 q4 q5
      generalize (wr.alloc (.cells #[.string ekey, .int .i64 ek, .bool eb, .int .i64 ei, .string es, .slice eal enl ecl, .slice eam enm ecm] 38)) = wa at *
      refine HC.out.mono ?_
      rintro e w3 ⟨rfl, b3⟩
      have b4 := bz.trans (b3.mono bz.size)
      clear HC bz b3
      cases ho : okV (l[j]).2 with
      | true =>
        have HO' : Hid (∀ i (h : i < l.length), i < j + 1 → okV (l[i]).2 = true) := fun i h hi => by
          rcases Nat.lt_or_ge i j with h1 | h1
          · exact HO.out i h h1
          · obtain rfl : i = j := by omega
            exact ho
        clear ho
        go_wp2_with fail
        go_roundw
        case rel => exact ⟨j + 1, by omega, by go_num, HO', b4⟩
        case measure => simp [RowKit.intOf]; omega
      | false =>
        have HN : Hid (bldOk l = false) := bld_no hjl ho
        obtain ⟨B4, t4⟩ := K0.out w3 b4
        have r0 : w3.cell? ⟨w.heap.size, 0, none⟩ = some (.int .i64 0) := by rw [cell_of_block t4]; rfl
        have r1 : w3.cell? ⟨w.heap.size, 1, none⟩ = some (.bool false) := by rw [cell_of_block t4]; rfl
        have r2 : w3.cell? ⟨w.heap.size, 2, none⟩ = some (.int .i64 0) := by rw [cell_of_block t4]; rfl
        have r3 : w3.cell? ⟨w.heap.size, 3, none⟩ = some (.string ⟨#[]⟩) := by rw [cell_of_block t4]; rfl
        have r4 : w3.cell? ⟨w.heap.size, 4, none⟩ = some (.slice none 0 0) := by rw [cell_of_block t4]; rfl
        have r5 : w3.cell? ⟨w.heap.size, 5, none⟩ = some (.slice none 0 0) := by rw [cell_of_block t4]; rfl
        have rf : ∀ i, w3.frozen? ⟨w.heap.size, i, none⟩ = false := frozen_of_block t4
        clear t4 ho tj Bj
        go_wp2_with fail
        (try simp only [Exit.inBlock, Exit.then])
        refine bodyPost_ret (v := .tuple #[.agg #[.int .i64 0, .bool false, .int .i64 0, .string ⟨#[]⟩, .slice none 0 0, .slice none 0 0], .int .i64 20]) ?_ rfl (.inl ⟨HN.out, [.int .i64 0, .bool false, .int .i64 0, .string ⟨#[]⟩, .slice none 0 0, .slice none 0 0], rfl, null_lies _ _, Below.set6 B4 (Nat.le_refl _) _ _ _ _ _ _ _ _ _ _ _ _⟩)
        rw [results_cell_tmp rfl]
        go_simp
    · obtain rfl : j = l.length := by omega
      have y1 : ¬ (l.length : Int) < l.length := by omega
      have HY : Hid (bldOk l = true) := bld_yes fun j hj => HO.out j hj hj
      obtain ⟨d, hd1, hd2, hd3⟩ := mc_of (HM.out wr Bj).1
      have hdl : d.length = l.length := by rw [← hd1]; simp
      have hc1 := mclone_any d bm om cm wr hd3 (by omega)
      rw [hdl] at hc1
      have HD : Hid ((d.map MC.mem = l) ∧ (∀ x ∈ d, x.key.size ≤ maxLen ∧ x.val.lies R wr S x.cs)) := ⟨hd1, hd2⟩
      have HSr : Hid (∀ b, S b → b < wr.heap.size) := (HM.out wr Bj).2
      clear hd1 hd2 hd3 HO tj
      go_wp2_with fail
      refine hc1.mono ?_
      rintro e w1 ⟨g, cap, rfl, hg, hgw, hcl, hcm, HH, b1⟩
      have hc2 := msort_any d g cap w1 HH hgw (by omega)
      rw [hdl] at hc2
      clear hc1 HH
      go_wp2_with fail
      refine hc2.mono ?_
      rintro e w2 ⟨rfl, d', hp, hs, hrow, hbl⟩
      have b2 := hbl wr.heap.size hg
      have hz2 := b2.size
      have hz1 := b1.size
      have br2 : Below wr.heap.size wr w2 := b1.trans b2
      have bz2 : Below w0.heap.size w0 w2 := bj.out.trans (br2.mono hzr)
      have hl' : (d'.map MC.mem).length = l.length := by rw [List.length_map, hp.length_eq, hdl]
      have hpl : (d'.map MC.mem).Perm l := HD.out.1 ▸ hp.map MC.mem
      have hwk : Wkl (d'.map MC.mem) := List.pairwise_map.2 hs
      have hlies : liesM false w2 (fun x => S x ∨ x = g) (d'.map MC.mem) g 0 := lies_of_mc (.inr rfl) (fun x hx => by
        have h := HD.out.2 x (hp.mem_iff.1 hx)
        exact ⟨h.1, V.lies_keep (fun h => by cases h) (fun y hy => br2.block y (HSr.out y hy)) (fun _ h => .inl h) _ h.2⟩) hrow
      have hSg : ∀ x, (S x ∨ x = g) → x < w2.heap.size := fun x hx => by
        rcases hx with h | h
        · have := HSr.out x h; omega
        · omega
      have HC3 : Hid (Calls Tryd.prog 35 #[.slice (some ⟨g, 0, none⟩) l.length cap] w2 (VePost (mapV (d'.map MC.mem)) (mapE (d'.map MC.mem)) w2)) := by
        have := mapOf_wide (d'.map MC.mem) false (fun x => S x ∨ x = g) (some ⟨g, 0, none⟩) cap g 0 w2 (HB.out w2 (K0.out w2 bz2).1) ⟨by omega, hcm, .inr rfl, fun h => by cases h⟩ hlies hSg (by rw [wtM_perm hpl]; exact hwt)
        rw [hl'] at this
        exact this
      have HR : Hid (∃ l', l'.Perm l ∧ Wkl l' ∧ l' = d'.map MC.mem) := ⟨_, hpl, hwk, rfl⟩
      generalize d'.map MC.mem = l' at *
      obtain ⟨me, hme⟩ : ∃ me, mapE l' = me := ⟨_, rfl⟩
      have HME : Hid (mapE l' = me) := hme
      rw [hme] at HC3
      clear hme
      clear hSg hc2 hp hs hrow hbl hlies br2 b2 b1 HD
      go_wp2_with fail
      refine HC3.out.mono ?_
      rintro e w3 ⟨csu, rfl, hlu, b3⟩
      obtain ⟨uk, ub, ui, us, ual, unl, ucl, uam, unm, ucm, rfl⟩ := V.ten hlu
      have hz3 := b3.size
      have hz4 := bz2.size
      obtain ⟨B3, t3⟩ := K0.out w3 (bz2.trans (b3.mono hz4))
      have HU : Hid ((mapV l').lies false w3 (From (w.heap.size + 1) w3) [.int .i64 uk, .bool ub, .int .i64 ui, .string us, .slice ual unl ucl, .slice uam unm ucm]) := V.lies_keep (fun h => h) (fun _ _ => rfl) (fun x hx => ⟨by have := hx.1; omega, hx.2⟩) _ hlu
      have r0 : w3.cell? ⟨w.heap.size, 0, none⟩ = some (.int .i64 0) := by rw [cell_of_block t3]; rfl
      have r1 : w3.cell? ⟨w.heap.size, 1, none⟩ = some (.bool false) := by rw [cell_of_block t3]; rfl
      have r2 : w3.cell? ⟨w.heap.size, 2, none⟩ = some (.int .i64 0) := by rw [cell_of_block t3]; rfl
      have r3 : w3.cell? ⟨w.heap.size, 3, none⟩ = some (.string ⟨#[]⟩) := by rw [cell_of_block t3]; rfl
      have r4 : w3.cell? ⟨w.heap.size, 4, none⟩ = some (.slice none 0 0) := by rw [cell_of_block t3]; rfl
      have r5 : w3.cell? ⟨w.heap.size, 5, none⟩ = some (.slice none 0 0) := by rw [cell_of_block t3]; rfl
      have rf : ∀ i, w3.frozen? ⟨w.heap.size, i, none⟩ = false := frozen_of_block t3
      have HP : Hid (l'.Perm l ∧ Wkl l') := ⟨hpl, hwk⟩
      clear t3 hlu b3 HC3 HR hpl hwk hl'
      go_wp2_with fail
      (try simp only [Exit.inBlock, Exit.then])
      refine bodyPost_ret (v := .tuple #[.agg #[.int .i64 uk, .bool ub, .int .i64 ui, .string us, .slice ual unl ucl, .slice uam unm ucm], .int .i64 (me : Int)]) ?_ rfl ?_
      · rw [results_cell_tmp rfl]
        go_simp
      · exact .inr ⟨HY.out, l', HP.out.1, HP.out.2, by rw [HME.out]; exact ⟨[.int .i64 uk, .bool ub, .int .i64 ui, .string us, .slice ual unl ucl, .slice uam unm ucm], rfl, V.lies_keep (fun h => h) (fun _ _ => rfl) (fun x hx => ⟨by have := hx.1; omega, hx.2⟩) _ (lies_set6A HU.out (show w.heap.size < w.heap.size + 1 by omega) _ _ _ _ _ _ _ _ _ _ _ _), Below.set6 B3 (Nat.le_refl _) _ _ _ _ _ _ _ _ _ _ _ _⟩⟩
theorem build_any (l : List Mem) (R : Bool) (S : Nat → Prop) (am : Option Addr) (cm bm om : Nat) (w : World) (tb : Tb w) (hat : am = some ⟨bm, om, none⟩) (hl : liesM R w S l bm om) (hS : ∀ b, S b → b < w.heap.size) (hwt : wtM l ≤ 1099511000000) :
    Calls Tryd.prog 10 #[.slice am l.length cm] w (BldPost l w) :=
  build_wide l R S am cm bm om w tb hat hl hS (by omega) (fun x hx => by have := wtM_mem hx; omega) (by have := wtM_len l; omega)
end Go.Proofs.YthgfomblodhoaaaDoor
