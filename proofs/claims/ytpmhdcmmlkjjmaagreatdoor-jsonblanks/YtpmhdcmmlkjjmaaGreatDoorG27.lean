/- joined: JrS JrI -/
import Derived.Shelf.SlSortCmp.WholeK
import Derived.Test.YtpmhdcmmlkjjmaaGreatDoorJrH
/- slices.SortFunc over members, by the library's contract, laid at this program. -/
set_option linter.unusedSimpArgs false
set_option linter.unusedVariables false
namespace Go.Proofs
open Go.Shelf Go.RowKit
def Tryz.sort116_ren : Go.Shelf.Ren := ⟨fun | 6 => 116 | 14 => 133 | 15 => 134 | 20 => 145 | 21 => 146 | 22 => 147 | 23 => 148 | 24 => 149 | 25 => 150 | 26 => 151 | 27 => 152 | 28 => 153 | 29 => 124 | 46 => 162 | 47 => 163 | 48 => 164 | 49 => 165 | 50 => 166 | 57 => 177 | n => n, fun | 0 => 0 | 3 => 3 | 4 => 4 | 5 => 5 | 9 => 9 | 22 => 23 | 24 => 57 | 25 => 150 | 39 => 95 | 45 => 175 | 46 => 176 | 50 => 86 | 53 => 127 | 55 => 105 | 66 => 185 | 70 => 189 | 76 => 200 | 77 => 201 | n => n, fun | n => n⟩
theorem Tryz.sort116 : Go.Proofs.SlLaysF0.n6 Tryz.prog Tryz.sort116_ren := {
  mixed := by kernel_rfl
  f6 := ⟨Tryz.f116.name, by kernel_rfl, Tryz.func116.trans (congrArg some (by kernel_rfl))⟩
  f14 := ⟨Tryz.f133.name, by kernel_rfl, Tryz.func133.trans (congrArg some (by kernel_rfl))⟩
  f15 := Tryz.func134.trans (congrArg some (by kernel_rfl))
  f20 := ⟨Tryz.f145.name, by kernel_rfl, Tryz.func145.trans (congrArg some (by kernel_rfl))⟩
  f21 := ⟨Tryz.f146.name, by kernel_rfl, Tryz.func146.trans (congrArg some (by kernel_rfl))⟩
  f22 := ⟨Tryz.f147.name, by kernel_rfl, Tryz.func147.trans (congrArg some (by kernel_rfl))⟩
  f23 := ⟨Tryz.f148.name, by kernel_rfl, Tryz.func148.trans (congrArg some (by kernel_rfl))⟩
  f24 := ⟨Tryz.f149.name, by kernel_rfl, Tryz.func149.trans (congrArg some (by kernel_rfl))⟩
  f25 := ⟨Tryz.f150.name, by kernel_rfl, Tryz.func150.trans (congrArg some (by kernel_rfl))⟩
  f26 := ⟨Tryz.f151.name, by kernel_rfl, Tryz.func151.trans (congrArg some (by kernel_rfl))⟩
  f27 := ⟨Tryz.f152.name, by kernel_rfl, Tryz.func152.trans (congrArg some (by kernel_rfl))⟩
  f28 := Tryz.func153.trans (congrArg some (by kernel_rfl))
  f29 := Tryz.func124.trans (congrArg some (by kernel_rfl))
  f46 := ⟨Tryz.f162.name, by kernel_rfl, Tryz.func162.trans (congrArg some (by kernel_rfl))⟩
  f47 := Tryz.func163.trans (congrArg some (by kernel_rfl))
  f48 := Tryz.func164.trans (congrArg some (by kernel_rfl))
  f49 := ⟨Tryz.f165.name, by kernel_rfl, Tryz.func165.trans (congrArg some (by kernel_rfl))⟩
  f50 := ⟨Tryz.f166.name, by kernel_rfl, Tryz.func166.trans (congrArg some (by kernel_rfl))⟩
  f57 := ⟨Tryz.f177.name, by kernel_rfl, Tryz.func177.trans (congrArg some (by kernel_rfl))⟩
  t0 := Tryz.underlying0
  a0 := Tryz.isAgg0
  z0 := Tryz.sizeOf0
  v0 := Tryz.zeroValue0
  t3 := Tryz.underlying3
  a3 := Tryz.isAgg3
  z3 := Tryz.sizeOf3
  v3 := Tryz.zeroValue3
  t4 := Tryz.underlying4
  a4 := Tryz.isAgg4
  z4 := Tryz.sizeOf4
  v4 := Tryz.zeroValue4
  t5 := Tryz.underlying5
  a5 := Tryz.isAgg5
  z5 := Tryz.sizeOf5
  v5 := Tryz.zeroValue5
  t9 := Tryz.underlying9
  a9 := Tryz.isAgg9
  z9 := Tryz.sizeOf9
  v9 := Tryz.zeroValue9
  t22 := Tryz.underlying23
  a22 := Tryz.isAgg23
  z22 := Tryz.sizeOf23
  v22 := Tryz.zeroValue23
  t25 := Tryz.underlying150
  a25 := Tryz.isAgg150
  z25 := Tryz.sizeOf150
  v25 := Tryz.zeroValue150
  t39 := Tryz.underlying95
  a39 := Tryz.isAgg95
  z39 := Tryz.sizeOf95
  v39 := Tryz.zeroValue95
  t45 := Tryz.underlying175
  a45 := Tryz.isAgg175
  z45 := Tryz.sizeOf175
  v45 := Tryz.zeroValue175
  t46 := Tryz.underlying176
  a46 := Tryz.isAgg176
  z46 := Tryz.sizeOf176
  v46 := Tryz.zeroValue176
  t50 := Tryz.underlying86
  a50 := Tryz.isAgg86
  z50 := Tryz.sizeOf86
  v50 := Tryz.zeroValue86
  t53 := Tryz.underlying127
  a53 := Tryz.isAgg127
  z53 := Tryz.sizeOf127
  v53 := Tryz.zeroValue127
  t55 := Tryz.underlying105
  a55 := Tryz.isAgg105
  z55 := Tryz.sizeOf105
  v55 := Tryz.zeroValue105
  t66 := Tryz.underlying185
  a66 := Tryz.isAgg185
  z66 := Tryz.sizeOf185
  v66 := Tryz.zeroValue185
  t70 := Tryz.underlying189
  a70 := Tryz.isAgg189
  z70 := Tryz.sizeOf189
  v70 := Tryz.zeroValue189
  t76 := Tryz.underlying200
  a76 := Tryz.isAgg200
  z76 := Tryz.sizeOf200
  v76 := Tryz.zeroValue200
  t77 := Tryz.underlying201
  a77 := Tryz.isAgg201
  z77 := Tryz.sizeOf201
  v77 := Tryz.zeroValue201 }
namespace YtpmhdcmmlkjjmaaGreatDoor
open Go.Lib Go.Sort
/-- a member, with the cells that hold it -/
structure MC where
  key : ByteArray
  val : V
  ek : Int
  eb : Bool
  ei : Int
  es : ByteArray
  eal : Option Addr
  enl : Nat
  ecl : Nat
  eam : Option Addr
  enm : Nat
  ecm : Nat
instance : Inhabited MC := ⟨⟨⟨#[]⟩, nulV, 0, false, 0, ⟨#[]⟩, none, 0, 0, none, 0, 0⟩⟩
def MC.cs (x : MC) : List Value := [.int .i64 x.ek, .bool x.eb, .int .i64 x.ei, .string x.es, .slice x.eal x.enl x.ecl, .slice x.eam x.enm x.ecm]
def MC.enc (x : MC) : List Value := .string x.key :: x.cs
def MC.mem (x : MC) : Mem := (x.key, x.val)
def MC.cmp (x y : MC) : Int := cmpS x.key y.key
theorem MC.len (x : MC) : x.enc.length = 7 := rfl
theorem MC.one (x : MC) : ∀ v ∈ x.enc, v.oneCell' = true := by
  intro v hv
  simp only [MC.enc, MC.cs, List.mem_cons, List.not_mem_nil, or_false] at hv
  rcases hv with rfl | rfl | rfl | rfl | rfl | rfl | rfl <;> rfl
theorem mc_lt {x y : MC} : ltOf MC.cmp x y = true ↔ cmpS x.key y.key < 0 := by rw [ltOf]; exact decide_eq_true_iff
theorem mc_lt_no {x y : MC} : ltOf MC.cmp x y = false ↔ ¬ cmpS x.key y.key < 0 := by rw [ltOf]; exact decide_eq_false_iff_not
theorem mc_swo : SWO (ltOf MC.cmp) where
  irrefl x := by rw [mc_lt_no]; have := k_self x.key; omega
  trans x y z h1 h2 := by rw [mc_lt] at *; exact k_trans h1 h2
  ntrans x y z h1 h2 := by rw [mc_lt_no] at *; exact k_ntrans h1 h2
theorem lies_of_mc {R : Bool} {w : World} {S : Nat → Prop} {d : List MC} {b o : Nat} (hS : S b) (h2 : ∀ x ∈ d, x.key.size ≤ maxLen ∧ x.val.lies R w S x.cs) (h3 : ∀ (j : Nat) (h : j < d.length), rowAt w b (o + j * 7) (d[j]).enc) : liesM R w S (d.map MC.mem) b o :=
  liesM_mk fun j h => by
    have h' : j < d.length := by simpa using h
    have e : (d.map MC.mem)[j] = MC.mem d[j] := List.getElem_map ..
    rw [e]
    have := h2 d[j] (List.getElem_mem h')
    exact ⟨hS, this.1, (d[j]).cs, h3 j h', this.2⟩
theorem get_arr {d : List MC} {i : Nat} (h : i < d.length) : d.toArray[i]! = d[i] := by simp [h]
theorem rows_of_holds {d : Array MC} {w : World} {b o : Nat} (h : HoldsK MC.enc 7 w b o d) (j : Nat) (hj : j < d.toList.length) : rowAt w b (o + j * 7) (d.toList[j]).enc := by
  intro t u hu
  have ht : t < 7 := by have := (List.getElem?_eq_some_iff.1 hu).1; rwa [MC.len] at this
  have hj' : j < d.size := by simpa using hj
  have := (HoldsK.cell h hj' ht).1
  rw [this]
  have e : d[j]! = d.toList[j] := by rw [getElem!_pos d j hj']; rfl
  rw [e]
  obtain ⟨h1, h2⟩ := List.getElem?_eq_some_iff.1 hu
  rw [getElem!_pos _ t h1, h2]
/-- what the sorting leaves alone -/
theorem sortK_grown {w0 : World} {g off n : Nat} {d : Array MC} {os : Array Obj} : w0.grownBy (sortWorldK MC.enc 7 w0 g off n d os) (some g) := by
  refine ⟨rfl, rfl, rfl, size_sortWorldK_c MC.enc 7 w0 g off n d os, fun k hk hne => ?_⟩
  have hne' : g ≠ k := fun e => hne (by rw [e])
  have e : (sortWorldK MC.enc 7 w0 g off n d os).heap = (w0.heap.modify g (onCells (Go.Sort.putCells id off (flatK MC.enc 7 d)))) ++ os := rfl
  rw [e, Array.getElem?_append_left (by rw [Array.size_modify]; omega), Array.getElem?_modify, if_neg hne']
set_option maxHeartbeats 1000000 in
set_option maxRecDepth 100000 in
/-- the comparison that members hands over -/
theorem bldcmp_any (x y : MC) (W : World) : Calls Tryz.prog 117 #[.agg x.enc.toArray, .agg y.enc.toArray] W fun e w' => e = .returned (.int .i64 (MC.cmp x y)) ∧ ∃ q os', w' = grow (W.drewN q) os' := by
  obtain ⟨key, v, ek, eb, ei, es, eal, enl, ecl, eam, enm, ecm⟩ := x
  obtain ⟨key', v', ek', eb', ei', es', eal', enl', ecl', eam', enm', ecm'⟩ := y
  have hc : ∀ W', Calls Tryz.prog 118 #[.string key, .string key'] W' fun e w' => e = .returned (.int .i64 (cmpS key key')) ∧ w' = W' := fun W' => Any.strings_Compare Tryz.lays106 key key' W'
  show Calls Tryz.prog 117 #[.agg #[.string key, .int .i64 ek, .bool eb, .int .i64 ei, .string es, .slice eal enl ecl, .slice eam enm ecm], .agg #[.string key', .int .i64 ek', .bool eb', .int .i64 ei', .string es', .slice eal' enl' ecl', .slice eam' enm' ecm']] W fun e w' => e = .returned (.int .i64 (cmpS key key')) ∧ ∃ q os', w' = grow (W.drewN q) os'
  generalize cmpS key key' = c at *
  go_enter Tryz.func117, Tryz.ntmps117
  go_wp2_with fail
  refine (hc _).mono ?_
  rintro e w3 ⟨rfl, rfl⟩
  go_wp2_with fail
  go_ret
  exact ⟨rfl, 0, _, by rw [alloc_eq_grow, alloc_eq_grow, grow_grow]; rfl⟩
/-- slices.SortFunc of members, by their keys -/
theorem msort_any (d : List MC) (g cap : Nat) (w : World) (hH : HoldsK MC.enc 7 w g 0 d.toArray) (hg : g < w.heap.size) (hn : d.length ≤ 1099511627776) :
    Calls Tryz.prog 116 #[.slice (some ⟨g, 0, none⟩) d.length cap, .func (.func 117) #[] #[]] w fun e w' => e = .returned (.tuple #[]) ∧ ∃ d' : List MC, d'.Perm d ∧ d'.Pairwise (fun a b => ¬ cmpS b.key a.key < 0) ∧ (∀ (j : Nat) (h : j < d'.length), rowAt w' g (0 + j * 7) (d'[j]).enc) ∧ w.grownBy w' (some g) := by
  have eg : ∀ args w, (callFunc 117 args).run Tryz.prog w = .ok (.enter 117 args) w := enters_of Tryz.func117 (by kernel_rfl) rfl
  have hcon := AnyQ.slices_SortFunc Tryz.sort116 7 Tryz.isAgg57 Tryz.sizeOf57 MC.enc MC.len MC.one MC.cmp mc_swo 117 #[] g 0 cap d.toArray w eg (fun m os dk hs x y => bldcmp_any x y _) hH hg (by simp; omega)
  have e0 : d.toArray.size = d.length := by simp
  rw [e0] at hcon
  change Calls Tryz.prog 116 _ _ _ at hcon
  refine hcon.mono ?_
  rintro e w' ⟨rfl, d', n, os, ⟨hs, _, hp⟩, hsrt, rfl⟩
  have hs' : d'.size = d.length := by rw [hs]; simp
  refine ⟨rfl, d'.toList, ?_, ?_, ?_, sortK_grown⟩
  · have h1 : d'.extract 0 d.length = d' := by rw [← hs']; simp
    have h2 : d.toArray.extract 0 d.length = d.toArray := by rw [← e0]; simp
    rw [h1, h2] at hp
    exact hp
  · refine List.pairwise_iff_getElem.2 fun i j hi hj hij => ?_
    have hi' : i < d'.size := by simpa using hi
    have hj' : j < d'.size := by simpa using hj
    have := hsrt i j (Nat.zero_le _) hij (by omega)
    rw [getElem!_pos d' i hi', getElem!_pos d' j hj'] at this
    exact mc_lt_no.1 this
  · exact rows_of_holds (holdsK_sortWorldK_c MC.enc 7 w g 0 d.toArray d' n os hH hg (by rw [hs]))
/-- a row that was made, taken as cells -/
theorem own_mc {W : World} {N : Nat} {S : Nat → Prop} {l : List Mem} {g n cap : Nat} (h : OwnM false W N S (.slice (some ⟨g, 0, none⟩) n cap) (l.map some)) (hn : n = l.length) :
    ∃ d : List MC, d.map MC.mem = l ∧ (∀ x ∈ d, x.key.size ≤ maxLen ∧ x.val.lies false W S x.cs) ∧ HoldsK MC.enc 7 W g 0 d.toArray ∧ g < W.heap.size ∧ l.length ≤ cap ∧ cap ≤ maxLen := by
  subst hn
  obtain ⟨⟨xs, h1, h2⟩, h3⟩ := h
  obtain ⟨hx, ho⟩ := h1
  rw [List.length_map] at hx ho
  rcases ho with ⟨e, _⟩ | ⟨g', cap', cur, e, hg, hblk, hle, hm, hcs, hpre⟩
  · cases e
  injection e with e1 e2 e3
  injection e1 with e1
  injection e1 with e1
  subst e1 e3
  have h4 : ∀ j : Fin l.length, ∃ x : MC, (x.mem = l[j] ∧ x.key.size ≤ maxLen ∧ x.val.lies false W S x.cs) ∧ x.enc = (xs.drop (j.val * 7)).take 7 := fun j => by
    have hE := h2 j.val (by simp)
    rw [List.getElem_map] at hE
    obtain ⟨cs', hc, hk, hv⟩ := hE
    obtain ⟨ek, eb, ei, es, eal, enl, ecl, eam, enm, ecm, rfl⟩ := V.ten hv
    exact ⟨⟨_, _, ek, eb, ei, es, eal, enl, ecl, eam, enm, ecm⟩, ⟨rfl, hk, hv⟩, hc.symm⟩
  obtain ⟨f, hf⟩ := Classical.axiomOfChoice h4
  have hlt : g < W.heap.size := by
    rcases Nat.lt_or_ge g W.heap.size with h | h
    · exact h
    · rw [Array.getElem?_eq_none h] at hblk; cases hblk
  refine ⟨List.ofFn f, ?_, ?_, ?_, hlt, hle, hm⟩
  · apply List.ext_getElem
    · simp
    · intro i h1 h2
      rw [List.getElem_map, List.getElem_ofFn]
      exact (hf _).1.1
  · intro x hx
    obtain ⟨i, hi, rfl⟩ := List.getElem_of_mem hx
    rw [List.getElem_ofFn]
    exact (hf _).1.2
  · intro j hj
    have hj' : j < l.length * 7 := by simpa using hj
    have h15 : j / 7 < l.length := by omega
    have hm15 : j % 7 < 7 := Nat.mod_lt _ (by omega)
    refine ⟨?_, frozen_of_block hblk _⟩
    rw [Nat.zero_add, cell_of_block hblk]
    have e1 : cur[j]? = (cur.toList.take (l.length * 7))[j]? := by rw [List.getElem?_take, if_pos hj', Array.getElem?_toList]
    rw [e1, hpre]
    have hj2 : j < xs.length := by rw [hx]; exact hj'
    rw [List.getElem?_eq_getElem hj2]
    have e2 : (flatK MC.enc 7 (List.ofFn f).toArray)[j]! = xs[j] := by
      rw [get_flatK _ _ _ _ (by simpa using hj')]
      rw [get_arr (d := List.ofFn f) (by simpa using h15), List.getElem_ofFn, (hf ⟨j / 7, h15⟩).2]
      have e3 : ((xs.drop (j / 7 * 7)).take 7)[j % 7]? = some xs[j] := by
        rw [List.getElem?_take, if_pos hm15, List.getElem?_drop, show j / 7 * 7 + j % 7 = j by omega, List.getElem?_eq_getElem hj2]
      rw [List.getElem!_eq_getElem?_getD, e3]
      rfl
    rw [← e2]
    simp [hj']
set_option maxHeartbeats 1000000 in
set_option maxRecDepth 100000 in
theorem ins_nil (w : World) : Calls Tryz.prog 145 #[.slice none 0 0, .int .i64 0, .int .i64 0, .func (.func 117) #[] #[]] w fun e w' => e = .returned (.tuple #[]) ∧ w' = w := by
  go_enter Tryz.func145, Tryz.ntmps145
  go_wp2_with fail
  go_loopw [8] (fun e wr => e = .int .i64 1 ∧ wr = w) (fun _ _ => 0)
  case atStart => exact ⟨by go_num, rfl⟩
  case round =>
    obtain ⟨rfl, rfl⟩ := hrel
    go_wp2_with fail
    go_end0
    exact ⟨rfl, rfl⟩
set_option maxHeartbeats 1000000 in
set_option maxRecDepth 100000 in
theorem pdq_nil (m : Int) (w : World) : Calls Tryz.prog 133 #[.slice none 0 0, .int .i64 0, .int .i64 0, .int .i64 m, .func (.func 117) #[] #[]] w fun e w' => e = .returned (.tuple #[]) ∧ w' = w := by
  have hc := ins_nil w
  go_enter Tryz.func133, Tryz.ntmps133
  go_wp2_with fail
  go_loopw [1, 2] (fun e1 e2 wr => e1 = .int .i64 0 ∧ e2 = .int .i64 0 ∧ wr = w) (fun _ _ _ => 0)
  case atStart => exact ⟨rfl, rfl, rfl⟩
  case round =>
    obtain ⟨rfl, rfl, rfl⟩ := hrel
    go_wp2_with fail
    refine hc.mono ?_
    rintro e w1 ⟨rfl, rfl⟩
    go_wp2_with fail
    exact bodyPost_ret (v := .tuple #[]) (results_none rfl _ _ _) rfl ⟨rfl, rfl⟩
set_option maxHeartbeats 1000000 in
set_option maxRecDepth 100000 in
theorem msort_nil (w : World) : Calls Tryz.prog 116 #[.slice none 0 0, .func (.func 117) #[] #[]] w fun e w' => e = .returned (.tuple #[]) ∧ w' = w := by
  have hl : Calls Tryz.prog 134 #[.int .u64 0] w fun e w' => e = .returned (.int .i64 (Lib.bitLen 0 : Nat)) ∧ w' = w := by
    have h := Any.bits_Len (SlLaysF0.n15.bits (P := Tryz.prog) (ρ := Tryz.sort116_ren) { Tryz.sort116 with }) 0 w (by omega) (by omega)
    exact h
  have hp := pdq_nil (Lib.bitLen 0 : Nat) w
  generalize ((Lib.bitLen 0 : Nat) : Int) = m at *
  go_enter Tryz.func116, Tryz.ntmps116
  go_wp2_with fail
  refine hl.mono ?_
  rintro e w1 ⟨rfl, rfl⟩
  go_wp2_with fail
  refine hp.mono ?_
  rintro e w1 ⟨rfl, rfl⟩
  go_wp2_with fail
  go_end0
  exact ⟨rfl, rfl⟩
end YtpmhdcmmlkjjmaaGreatDoor
end Go.Proofs
/- the reader's members. -/
set_option maxRecDepth 100000
namespace Go.Proofs.YtpmhdcmmlkjjmaaGreatDoor
open Go.RowKit Go.Lib Go.Sort
theorem OwnR.keepB {α : Type} {E : α → World → (Nat → Prop) → List Value → Prop} {ty sz : Nat} (K : KeepE E) {w w' : World} {base : Nat} {S : Nat → Prop} {v : Value} {l : List α} (h : OwnR E ty sz w base S v l) (hb : ∀ b, base ≤ b → b < w.heap.size → w'.heap[b]? = w.heap[b]?) (hs : w.heap.size ≤ w'.heap.size) : OwnR E ty sz w' base S v l := by
  obtain ⟨⟨xs, h1, h2⟩, h3⟩ := h
  have hS : ∀ b, S b → w'.heap[b]? = w.heap[b]? := fun b h => hb b (h3 b h).1 (h3 b h).2.1
  refine ⟨⟨xs, ?_, fun j hj => K _ _ _ _ _ _ hS (fun _ h => h) (h2 j hj)⟩, fun b h => ⟨(h3 b h).1, Nat.lt_of_lt_of_le (h3 b h).2.1 hs, (h3 b h).2.2⟩⟩
  obtain ⟨hx, ho⟩ := h1
  refine ⟨hx, ?_⟩
  rcases ho with ho | ⟨g', cap', cur, e, hg, hblk, r⟩
  · exact .inl ho
  · have hlt : g' < w.heap.size := by
      rcases Nat.lt_or_ge g' w.heap.size with h | h
      · exact h
      · rw [Array.getElem?_eq_none h] at hblk; cases hblk
    exact .inr ⟨g', cap', cur, e, hg, (hb g' hg hlt).trans hblk, r⟩
/-- what members does -/
def MeP (R : Except Flt (List Mem × Nat × Nat)) (g : Nat) (s : ByteArray) (D : Nat) (w : World) (e : Ending) (w' : World) : Prop :=
  match R with
  | .ok x => (∃ a c b o, e = .returned (.slice a (sortM x.1).length c) ∧ Headed a (sortM x.1).length c b o ∧ liesM false w' (New w w') (sortM x.1) b o ∧ JR g s x.2.1 D x.2.2 w') ∧ w.grownBy w' (some g)
  | .error f => e = flt f ∧ w.grownBy w' (some g)
theorem sortM_len (l : List Mem) : (sortM l).length = l.length := (sortM_perm l).length_eq
/-- the row, sorted -/
theorem sort_call {N : Nat} {S : Nat → Prop} {acc : List Mem} {v : Value} (w wr : World) (g : Nat) (o : OwnM false wr N S v (acc.map some)) (hN : w.heap.size ≤ N) (gr : w.grownBy wr (some g)) (hg : g < w.heap.size) (hk : (acc.map fun x => x.1.data.toList).Nodup) (hl : acc.length ≤ 100000000) :
    Calls Tryz.prog 116 #[v, .func (.func 117) #[] #[]] wr fun e w' => e = .returned (.tuple #[]) ∧ (∃ a c b o, v = .slice a (sortM acc).length c ∧ Headed a (sortM acc).length c b o ∧ liesM false w' (New w w') (sortM acc) b o) ∧ w.grownBy w' (some g) ∧ (∀ b, b < wr.heap.size → b < N → w'.heap[b]? = wr.heap[b]?) := by
  have hos := o.row
  obtain ⟨xs, hx, _⟩ := hos
  rcases hx.2 with ⟨rfl, e⟩ | ⟨g', cap, cur, rfl, hg', _⟩
  · have : acc = [] := List.length_eq_zero_iff.1 (by simpa using e)
    subst this
    refine (msort_nil wr).mono ?_
    rintro e w' ⟨rfl, rfl⟩
    exact ⟨rfl, ⟨none, 0, 0, 0, rfl, headed_nil, by rw [sortM, liesM]; trivial⟩, gr, fun b _ _ => rfl⟩
  · obtain ⟨d, hd, hv, hH, hlt, hc1, hc2⟩ := own_mc o (by simp)
    have hdl : d.length = acc.length := by rw [← hd, List.length_map]
    have c := msort_any d g' cap wr hH hlt (by omega)
    rw [hdl] at c
    rw [List.length_map]
    refine c.mono ?_
    rintro e w' ⟨rfl, d', hp, hs, hr, gs⟩
    have hm : d'.map MC.mem = sortM acc := by
      refine sort_one hk ?_ ?_
      · rw [← hd]; exact hp.map _
      · refine List.pairwise_map.2 (hs.imp fun {a b} h => h)
    have hlen : d'.length = (sortM acc).length := by rw [← hm, List.length_map]
    have hrow : ∀ r, (some g' : Option Nat) = some r → w.heap.size ≤ r := fun r e => by cases e; omega
    have G := grown_own gr gs hrow
    refine ⟨rfl, ⟨some ⟨g', 0, none⟩, cap, g', 0, by rw [sortM_len], ⟨by rw [sortM_len]; exact hc1, hc2, .inr rfl, fun h => by cases h⟩, ?_⟩, G, fun b hb hbN => gs.block b hb (fun e => by cases e; omega)⟩
    rw [← hm]
    refine lies_of_mc ⟨by omega, Nat.lt_of_lt_of_le hlt gs.size⟩ (fun x hx => ?_) hr
    have hx' := hp.mem_iff.1 hx
    obtain ⟨h1, h2⟩ := hv x hx'
    refine ⟨h1, V.lies_keep (fun h => h) (fun b hb => gs.block b (o.off b hb).2.1 (fun e => (o.off b hb).2.2 (by rw [e]; rfl))) (fun b hb => ⟨Nat.le_trans hN (o.off b hb).1, Nat.lt_of_lt_of_le (o.off b hb).2.1 gs.size⟩) _ h2⟩
end Go.Proofs.YtpmhdcmmlkjjmaaGreatDoor
