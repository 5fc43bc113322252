import Derived.Shelf.SlSortCmp.Whole1
import Derived.Shelf.SlicesE.Clone
import Derived.Test.YtfekgeaopchilaaGreatDoorBdrR
import Derived.Test.YtfekgeaopchilaaGreatDoorG33
/- slices.Clone and slices.SortFunc over paths, by the library's contracts, laid at this program. -/
set_option linter.unusedSimpArgs false
set_option linter.unusedVariables false
namespace Go.Proofs
open Go.Shelf Go.RowKit
def Tryz.sort37_ren : Go.Shelf.Ren := ⟨fun | 6 => 77 | 14 => 88 | 15 => 89 | 20 => 97 | 21 => 98 | 22 => 99 | 23 => 100 | 24 => 101 | 25 => 102 | 26 => 103 | 27 => 104 | 28 => 105 | 29 => 106 | 46 => 110 | 47 => 111 | 48 => 112 | 49 => 113 | 50 => 114 | 57 => 116 | n => n, fun | 0 => 0 | 3 => 3 | 4 => 4 | 5 => 5 | 9 => 9 | 22 => 23 | 24 => 25 | 25 => 54 | 39 => 87 | 45 => 108 | 46 => 109 | 50 => 56 | 53 => 115 | 55 => 117 | 66 => 119 | 70 => 123 | 76 => 126 | 77 => 127 | n => n, fun | n => n⟩
theorem Tryz.sort37 : Go.Proofs.SlLaysF.n6 Tryz.prog Tryz.sort37_ren := {
  mixed := by kernel_rfl
  f6 := ⟨Tryz.f77.name, by kernel_rfl, Tryz.func77.trans (congrArg some (by kernel_rfl))⟩
  f14 := ⟨Tryz.f88.name, by kernel_rfl, Tryz.func88.trans (congrArg some (by kernel_rfl))⟩
  f15 := Tryz.func89.trans (congrArg some (by kernel_rfl))
  f20 := ⟨Tryz.f97.name, by kernel_rfl, Tryz.func97.trans (congrArg some (by kernel_rfl))⟩
  f21 := ⟨Tryz.f98.name, by kernel_rfl, Tryz.func98.trans (congrArg some (by kernel_rfl))⟩
  f22 := ⟨Tryz.f99.name, by kernel_rfl, Tryz.func99.trans (congrArg some (by kernel_rfl))⟩
  f23 := ⟨Tryz.f100.name, by kernel_rfl, Tryz.func100.trans (congrArg some (by kernel_rfl))⟩
  f24 := ⟨Tryz.f101.name, by kernel_rfl, Tryz.func101.trans (congrArg some (by kernel_rfl))⟩
  f25 := ⟨Tryz.f102.name, by kernel_rfl, Tryz.func102.trans (congrArg some (by kernel_rfl))⟩
  f26 := ⟨Tryz.f103.name, by kernel_rfl, Tryz.func103.trans (congrArg some (by kernel_rfl))⟩
  f27 := ⟨Tryz.f104.name, by kernel_rfl, Tryz.func104.trans (congrArg some (by kernel_rfl))⟩
  f28 := Tryz.func105.trans (congrArg some (by kernel_rfl))
  f29 := Tryz.func106.trans (congrArg some (by kernel_rfl))
  f46 := ⟨Tryz.f110.name, by kernel_rfl, Tryz.func110.trans (congrArg some (by kernel_rfl))⟩
  f47 := Tryz.func111.trans (congrArg some (by kernel_rfl))
  f48 := Tryz.func112.trans (congrArg some (by kernel_rfl))
  f49 := ⟨Tryz.f113.name, by kernel_rfl, Tryz.func113.trans (congrArg some (by kernel_rfl))⟩
  f50 := ⟨Tryz.f114.name, by kernel_rfl, Tryz.func114.trans (congrArg some (by kernel_rfl))⟩
  f57 := ⟨Tryz.f116.name, by kernel_rfl, Tryz.func116.trans (congrArg some (by kernel_rfl))⟩
  t0 := Tryz.underlying0
  a0 := Tryz.isAgg0
  z0 := Tryz.sizeOf0
  v0 := Tryz.zeroValue0
  t3 := Tryz.underlying3
  a3 := Tryz.isAgg3
  z3 := Tryz.sizeOf3
  v3 := Tryz.zeroValue3
  t4 := Tryz.underlying4
  a4 := Tryz.isAgg4
  z4 := Tryz.sizeOf4
  v4 := Tryz.zeroValue4
  t5 := Tryz.underlying5
  a5 := Tryz.isAgg5
  z5 := Tryz.sizeOf5
  v5 := Tryz.zeroValue5
  t9 := Tryz.underlying9
  a9 := Tryz.isAgg9
  z9 := Tryz.sizeOf9
  v9 := Tryz.zeroValue9
  t22 := Tryz.underlying23
  a22 := Tryz.isAgg23
  z22 := Tryz.sizeOf23
  v22 := Tryz.zeroValue23
  a24 := Tryz.isAgg25
  z24 := Tryz.sizeOf25
  t25 := Tryz.underlying54
  a25 := Tryz.isAgg54
  z25 := Tryz.sizeOf54
  v25 := Tryz.zeroValue54
  t39 := Tryz.underlying87
  a39 := Tryz.isAgg87
  z39 := Tryz.sizeOf87
  v39 := Tryz.zeroValue87
  t45 := Tryz.underlying108
  a45 := Tryz.isAgg108
  z45 := Tryz.sizeOf108
  v45 := Tryz.zeroValue108
  t46 := Tryz.underlying109
  a46 := Tryz.isAgg109
  z46 := Tryz.sizeOf109
  v46 := Tryz.zeroValue109
  t50 := Tryz.underlying56
  a50 := Tryz.isAgg56
  z50 := Tryz.sizeOf56
  v50 := Tryz.zeroValue56
  t53 := Tryz.underlying115
  a53 := Tryz.isAgg115
  z53 := Tryz.sizeOf115
  v53 := Tryz.zeroValue115
  t55 := Tryz.underlying117
  a55 := Tryz.isAgg117
  z55 := Tryz.sizeOf117
  v55 := Tryz.zeroValue117
  t66 := Tryz.underlying119
  a66 := Tryz.isAgg119
  z66 := Tryz.sizeOf119
  v66 := Tryz.zeroValue119
  t70 := Tryz.underlying123
  a70 := Tryz.isAgg123
  z70 := Tryz.sizeOf123
  v70 := Tryz.zeroValue123
  t76 := Tryz.underlying126
  a76 := Tryz.isAgg126
  z76 := Tryz.sizeOf126
  v76 := Tryz.zeroValue126
  t77 := Tryz.underlying127
  a77 := Tryz.isAgg127
  z77 := Tryz.sizeOf127
  v77 := Tryz.zeroValue127 }
def Tryz.clone36_ren : Go.Shelf.Ren := ⟨fun | 41 => 76 | n => n, fun | 4 => 4 | 22 => 23 | 23 => 25 | n => n, fun | n => n⟩
theorem Tryz.clone36 : Go.Proofs.SlLaysE0.n41 Tryz.prog Tryz.clone36_ren := {
  mixed := by kernel_rfl
  f41 := ⟨Tryz.f76.name, by kernel_rfl, Tryz.func76.trans (congrArg some (by kernel_rfl))⟩
  t4 := Tryz.underlying4
  a4 := Tryz.isAgg4
  z4 := Tryz.sizeOf4
  v4 := Tryz.zeroValue4
  t22 := Tryz.underlying23
  a22 := Tryz.isAgg23
  z22 := Tryz.sizeOf23
  v22 := Tryz.zeroValue23 }
namespace YtfekgeaopchilaaGreatDoor
open Go.Lib Go.Sort
/-- a path, with the place where it lies -/
structure PC (w : World) (S : Nat → Prop) where
  p : List El
  ao : Option Addr
  cap : Nat
  b : Nat
  o : Nat
  hh : Headed ao p.length cap b o
  hl : liesP w S p b o
instance pcThere (w : World) (S : Nat → Prop) : Inhabited (PC w S) := ⟨⟨[], none, 0, 0, 0, ⟨Nat.le_refl _, by simp [maxLen], .inl rfl, fun _ => rfl⟩, fun j h => by simp at h⟩⟩
def PC.enc {w : World} {S : Nat → Prop} (x : PC w S) : Value := .slice x.ao x.p.length x.cap
def PC.cmp {w : World} {S : Nat → Prop} (x y : PC w S) : Int := lexL oeE x.p y.p
theorem PC.lies {w w' : World} {S S' : Nat → Prop} (x : PC w S) (hw : ∀ b, S b → w'.heap[b]? = w.heap[b]?) (hS : ∀ b, S b → S' b) : Pl.lies w' S' x.p x.enc := ⟨x.ao, x.cap, x.b, x.o, rfl, x.hh, liesP_keep hw hS x.hl⟩
theorem pc_of {w : World} {S : Nat → Prop} {l : List (List El)} {b o : Nat} (h : liesQ w S l b o) : ∃ d : List (PC w S), d.map PC.p = l ∧ ∀ (j : Nat) (hj : j < d.length), w.cell? ⟨b, o + j, none⟩ = some (d[j]).enc := by
  have h1 : ∀ j : Fin l.length, ∃ x : PC w S, x.p = l[j] ∧ w.cell? ⟨b, o + j, none⟩ = some x.enc := fun j => by
    obtain ⟨_, v, hv, ap, cp, bp, op, rfl, hh, hl⟩ := h j j.2
    exact ⟨⟨l[j], ap, cp, bp, op, hh, hl⟩, rfl, hv⟩
  obtain ⟨f, hf⟩ := Classical.axiomOfChoice h1
  refine ⟨List.ofFn f, ?_, fun j hj => ?_⟩
  · apply List.ext_getElem
    · simp
    · intro i h1 h2
      rw [List.getElem_map, List.getElem_ofFn]
      exact (hf _).1
  · rw [List.getElem_ofFn]
    exact (hf ⟨j, by simpa using hj⟩).2
theorem pc_lt {w : World} {S : Nat → Prop} {x y : PC w S} : ltOf PC.cmp x y = true ↔ lexL oeE x.p y.p < 0 := by rw [ltOf]; exact decide_eq_true_iff
theorem pc_lt_no {w : World} {S : Nat → Prop} {x y : PC w S} : ltOf PC.cmp x y = false ↔ ¬ lexL oeE x.p y.p < 0 := by rw [ltOf]; exact decide_eq_false_iff_not
theorem pc_swo {w : World} {S : Nat → Prop} : SWO (ltOf (PC.cmp (w := w) (S := S))) where
  irrefl x := by rw [pc_lt_no]; have := wk_P.self x.p; omega
  trans x y z h1 h2 := by rw [pc_lt] at *; exact wk_P.tri _ _ _ h1 h2
  ntrans x y z h1 h2 := by
    rw [pc_lt_no] at *
    intro h3
    have ha := wk_P.anti x.p y.p
    rcases Int.lt_trichotomy (lexL oeE x.p y.p) 0 with h | h | h
    · exact h1 h
    · have := wk_P.cong _ _ z.p h
      omega
    · have := wk_P.tri y.p x.p z.p (by omega) h3
      exact h2 this
/-- slices.Clone of paths: not nil -/
theorem pclone_any {w0 : World} {S : Nat → Prop} (d : List (PC w0 S)) (b off c : Nat) (w : World) (hr : ∀ (j : Nat) (h : j < d.length), w.cell? ⟨b, off + j, none⟩ = some (d[j]).enc) (hn : d.length ≤ 2147483647) :
    Calls Tryz.prog 76 #[.slice (some ⟨b, off, none⟩) d.length c] w fun e w' => ∃ g cap, e = .returned (.slice (some ⟨g, 0, none⟩) d.length cap) ∧ w.heap.size ≤ g ∧ g < w'.heap.size ∧ d.length ≤ cap ∧ cap ≤ maxLen ∧ Holds PC.enc w' g 0 d.toArray ∧ Below w.heap.size w w' := by
  obtain ⟨i0, hi0, hz0, hz1, hz2⟩ := info_parts info33
  have hmax : d.length ≤ maxLen := Nat.le_trans hn (by decide)
  have hcon := AnyE.slices_Clone Tryz.clone36 i0 _ 1 24 hi0 hz0 hz1 hz2 (by rfl) (by omega) Tryz.sizeOf25 b off d.length c (d.map PC.enc) w (by simp) hmax (by omega) (fun j u hu => by
      rw [List.getElem?_map] at hu
      obtain ⟨x, hx, rfl⟩ := Option.map_eq_some_iff.1 hu
      obtain ⟨hj, rfl⟩ := List.getElem?_eq_some_iff.1 hx
      exact hr j hj) (fun u hu => by obtain ⟨x, _, rfl⟩ := List.mem_map.1 hu; rfl)
  change Calls Tryz.prog 76 _ _ _ at hcon
  refine hcon.mono ?_
  rintro e w' ⟨v', rfl, ho, hne, hb⟩
  obtain ⟨_, ho⟩ := ho
  rcases ho with ⟨rfl, _⟩ | ⟨g, cap, cur, rfl, hg, hblk, hle, hm, hcs, hpre⟩
  · exact absurd rfl hne
  · have hlt : g < w'.heap.size := by
      rcases Nat.lt_or_ge g w'.heap.size with h | h
      · exact h
      · rw [Array.getElem?_eq_none h] at hblk; cases hblk
    refine ⟨g, cap, rfl, hg, hlt, hle, hm, ?_, hb⟩
    intro j hj
    have hj' : j < d.length := by simpa using hj
    refine ⟨?_, ?_⟩
    · rw [Nat.zero_add, cell_of_block hblk, ← Array.getElem?_toList]
      have e1 : cur.toList[j]? = (cur.toList.take (d.length * 1))[j]? := by rw [List.getElem?_take, if_pos (by omega)]
      rw [e1, hpre, List.getElem?_map, List.getElem?_eq_getElem hj']
      simp [hj']
    · exact frozen_of_block hblk _
theorem pclone_nil (n c : Nat) (w : World) : Calls Tryz.prog 76 #[.slice none n c] w fun e w' => e = .returned (.slice none 0 0) ∧ w' = w :=
  AnyE.slices_Clone_nil Tryz.clone36 n c w
theorem sortW_below {α : Type} [Inhabited α] {enc : α → Value} {w0 : World} {B g off n : Nat} {d : Array α} {os : Array Obj} (h : B ≤ g) (hB : B ≤ w0.heap.size) : Below B w0 (sortWorld enc w0 g off n d os) := by
  refine ⟨rfl, rfl, rfl, (SW.le (enc := enc) (w0 := w0) (blk := g) (off := off) (dk := d) ⟨n, os, rfl⟩), fun k hk => ?_⟩
  have e : (sortWorld enc w0 g off n d os).heap = (w0.heap.modify g (onCells (Go.Sort.putCells enc off d))) ++ os := rfl
  rw [e, Array.getElem?_append_left (by rw [Array.size_modify]; omega), Array.getElem?_modify, if_neg (by omega)]
/-- slices.SortFunc of paths, by their order -/
theorem psort_any {w0 : World} {S : Nat → Prop} (hS0 : ∀ b, S b → b < w0.heap.size) (d : List (PC w0 S)) (g cap : Nat) (w : World) (hw : Below w0.heap.size w0 w) (hg0 : w0.heap.size ≤ g) (hH : Holds PC.enc w g 0 d.toArray) (hg : g < w.heap.size) (hn : d.length ≤ 2147483647) :
    Calls Tryz.prog 77 #[.slice (some ⟨g, 0, none⟩) d.length cap, .func (.func 33) #[] #[]] w fun e w' => e = .returned (.tuple #[]) ∧ ∃ d' : List (PC w0 S), d'.Perm d ∧ d'.Pairwise (fun a b => ¬ lexL oeE b.p a.p < 0) ∧ Holds PC.enc w' g 0 d'.toArray ∧ g < w'.heap.size ∧ (∀ B, B ≤ g → Below B w w') := by
  have eg : ∀ args w, (callFunc 33 args).run Tryz.prog w = .ok (.enter 33 args) w := enters_of Tryz.func33 (by kernel_rfl) rfl
  have hlay : CmpLays1 Tryz.prog 33 #[] PC.enc PC.cmp g 0 d.toArray.size w := fun m os dk hs x y => by
    have hb : Below w0.heap.size w (sortWorld PC.enc w g 0 m dk os) := sortW_below hg0 hw.size
    have hk : ∀ b, S b → (sortWorld PC.enc w g 0 m dk os).heap[b]? = w0.heap[b]? := fun b h => (hb.block b (hS0 b h)).trans (hw.block b (hS0 b h))
    have hsz : ∀ b, S b → b < (sortWorld PC.enc w g 0 m dk os).heap.size := fun b h => Nat.lt_of_lt_of_le (hS0 b h) (Nat.le_trans hw.size hb.size)
    refine (opaths_anyD x.p y.p S S x.ao x.cap x.b x.o y.ao y.cap y.b y.o _ x.hh (liesP_keep hk (fun _ h => h) x.hl) y.hh (liesP_keep hk (fun _ h => h) y.hl) hsz hsz).mono ?_
    rintro e w' ⟨rfl, hb'⟩
    exact ⟨rfl, hb'.grow⟩
  have hcon := Any.slices_SortFunc Tryz.sort37 PC.enc (fun _ => rfl) PC.cmp pc_swo 33 #[] g 0 cap d.toArray w eg hlay hH hg (by simp; omega)
  have e0 : d.toArray.size = d.length := by simp
  rw [e0] at hcon
  change Calls Tryz.prog 77 _ _ _ at hcon
  refine hcon.mono ?_
  rintro e w' ⟨rfl, d', n, os, ⟨hs, _, hp⟩, hsrt, rfl⟩
  have hs' : d'.size = d.length := by rw [hs]; simp
  have hSW : SW PC.enc w g 0 d' (sortWorld PC.enc w g 0 n d' os) := ⟨n, os, rfl⟩
  refine ⟨rfl, d'.toList, ?_, ?_, ?_, hSW.lt hg, fun B hB => sortW_below hB (by omega)⟩
  · have h1 : d'.extract 0 d.length = d' := by rw [← hs']; simp
    have h2 : d.toArray.extract 0 d.length = d.toArray := by rw [← e0]; simp
    rw [h1, h2] at hp
    exact hp
  · refine List.pairwise_iff_getElem.2 fun i j hi hj hij => ?_
    have hi' : i < d'.size := by simpa using hi
    have hj' : j < d'.size := by simpa using hj
    have := hsrt i j (Nat.zero_le _) hij (by omega)
    rw [pc_lt_no, getElem!_pos d' i hi', getElem!_pos d' j hj'] at this
    exact this
  · have := hSW.holds hg hH (by rw [hs])
    simpa using this
end YtfekgeaopchilaaGreatDoor
end Go.Proofs
