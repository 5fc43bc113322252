import Derived.Shelf.SlSortCmp.Whole1
import Derived.Shelf.SlicesE.Clone
import Derived.Test.YtjdgnajjggjljaaDoorBdrR
import Derived.Test.YtjdgnajjggjljaaDoorG17
import Derived.Test.YtjdgnajjggjljaaDoorPtoP
/- slices.Clone and slices.SortFunc over paths, by the library's contracts, laid at this program. -/
set_option linter.unusedSimpArgs false
set_option linter.unusedVariables false
namespace Go.Proofs
open Go.Shelf Go.RowKit
def Tryd.sort37_ren : Go.Shelf.Ren := ⟨fun | 6 => 37 | 14 => 54 | 15 => 55 | 20 => 74 | 21 => 75 | 22 => 76 | 23 => 77 | 24 => 78 | 25 => 79 | 26 => 80 | 27 => 81 | 28 => 82 | 29 => 83 | 46 => 93 | 47 => 94 | 48 => 95 | 49 => 96 | 50 => 97 | 57 => 103 | n => n, fun | 0 => 0 | 3 => 3 | 4 => 4 | 5 => 5 | 9 => 9 | 22 => 28 | 24 => 23 | 25 => 26 | 39 => 66 | 45 => 76 | 46 => 77 | 50 => 55 | 53 => 83 | 55 => 85 | 66 => 89 | 70 => 93 | 76 => 106 | 77 => 107 | n => n, fun | n => n⟩
theorem Tryd.sort37 : Go.Proofs.SlLaysF.n6 Tryd.prog Tryd.sort37_ren := {
  mixed := by kernel_rfl
  f6 := ⟨Tryd.f37.name, by kernel_rfl, Tryd.func37.trans (congrArg some (by kernel_rfl))⟩
  f14 := ⟨Tryd.f54.name, by kernel_rfl, Tryd.func54.trans (congrArg some (by kernel_rfl))⟩
  f15 := Tryd.func55.trans (congrArg some (by kernel_rfl))
  f20 := ⟨Tryd.f74.name, by kernel_rfl, Tryd.func74.trans (congrArg some (by kernel_rfl))⟩
  f21 := ⟨Tryd.f75.name, by kernel_rfl, Tryd.func75.trans (congrArg some (by kernel_rfl))⟩
  f22 := ⟨Tryd.f76.name, by kernel_rfl, Tryd.func76.trans (congrArg some (by kernel_rfl))⟩
  f23 := ⟨Tryd.f77.name, by kernel_rfl, Tryd.func77.trans (congrArg some (by kernel_rfl))⟩
  f24 := ⟨Tryd.f78.name, by kernel_rfl, Tryd.func78.trans (congrArg some (by kernel_rfl))⟩
  f25 := ⟨Tryd.f79.name, by kernel_rfl, Tryd.func79.trans (congrArg some (by kernel_rfl))⟩
  f26 := ⟨Tryd.f80.name, by kernel_rfl, Tryd.func80.trans (congrArg some (by kernel_rfl))⟩
  f27 := ⟨Tryd.f81.name, by kernel_rfl, Tryd.func81.trans (congrArg some (by kernel_rfl))⟩
  f28 := Tryd.func82.trans (congrArg some (by kernel_rfl))
  f29 := Tryd.func83.trans (congrArg some (by kernel_rfl))
  f46 := ⟨Tryd.f93.name, by kernel_rfl, Tryd.func93.trans (congrArg some (by kernel_rfl))⟩
  f47 := Tryd.func94.trans (congrArg some (by kernel_rfl))
  f48 := Tryd.func95.trans (congrArg some (by kernel_rfl))
  f49 := ⟨Tryd.f96.name, by kernel_rfl, Tryd.func96.trans (congrArg some (by kernel_rfl))⟩
  f50 := ⟨Tryd.f97.name, by kernel_rfl, Tryd.func97.trans (congrArg some (by kernel_rfl))⟩
  f57 := ⟨Tryd.f103.name, by kernel_rfl, Tryd.func103.trans (congrArg some (by kernel_rfl))⟩
  t0 := Tryd.underlying0
  a0 := Tryd.isAgg0
  z0 := Tryd.sizeOf0
  v0 := Tryd.zeroValue0
  t3 := Tryd.underlying3
  a3 := Tryd.isAgg3
  z3 := Tryd.sizeOf3
  v3 := Tryd.zeroValue3
  t4 := Tryd.underlying4
  a4 := Tryd.isAgg4
  z4 := Tryd.sizeOf4
  v4 := Tryd.zeroValue4
  t5 := Tryd.underlying5
  a5 := Tryd.isAgg5
  z5 := Tryd.sizeOf5
  v5 := Tryd.zeroValue5
  t9 := Tryd.underlying9
  a9 := Tryd.isAgg9
  z9 := Tryd.sizeOf9
  v9 := Tryd.zeroValue9
  t22 := Tryd.underlying28
  a22 := Tryd.isAgg28
  z22 := Tryd.sizeOf28
  v22 := Tryd.zeroValue28
  a24 := Tryd.isAgg23
  z24 := Tryd.sizeOf23
  t25 := Tryd.underlying26
  a25 := Tryd.isAgg26
  z25 := Tryd.sizeOf26
  v25 := Tryd.zeroValue26
  t39 := Tryd.underlying66
  a39 := Tryd.isAgg66
  z39 := Tryd.sizeOf66
  v39 := Tryd.zeroValue66
  t45 := Tryd.underlying76
  a45 := Tryd.isAgg76
  z45 := Tryd.sizeOf76
  v45 := Tryd.zeroValue76
  t46 := Tryd.underlying77
  a46 := Tryd.isAgg77
  z46 := Tryd.sizeOf77
  v46 := Tryd.zeroValue77
  t50 := Tryd.underlying55
  a50 := Tryd.isAgg55
  z50 := Tryd.sizeOf55
  v50 := Tryd.zeroValue55
  t53 := Tryd.underlying83
  a53 := Tryd.isAgg83
  z53 := Tryd.sizeOf83
  v53 := Tryd.zeroValue83
  t55 := Tryd.underlying85
  a55 := Tryd.isAgg85
  z55 := Tryd.sizeOf85
  v55 := Tryd.zeroValue85
  t66 := Tryd.underlying89
  a66 := Tryd.isAgg89
  z66 := Tryd.sizeOf89
  v66 := Tryd.zeroValue89
  t70 := Tryd.underlying93
  a70 := Tryd.isAgg93
  z70 := Tryd.sizeOf93
  v70 := Tryd.zeroValue93
  t76 := Tryd.underlying106
  a76 := Tryd.isAgg106
  z76 := Tryd.sizeOf106
  v76 := Tryd.zeroValue106
  t77 := Tryd.underlying107
  a77 := Tryd.isAgg107
  z77 := Tryd.sizeOf107
  v77 := Tryd.zeroValue107 }
def Tryd.clone36_ren : Go.Shelf.Ren := ⟨fun | 41 => 36 | n => n, fun | 4 => 4 | 22 => 28 | 23 => 23 | n => n, fun | n => n⟩
theorem Tryd.clone36 : Go.Proofs.SlLaysE0.n41 Tryd.prog Tryd.clone36_ren := {
  mixed := by kernel_rfl
  f41 := ⟨Tryd.f36.name, by kernel_rfl, Tryd.func36.trans (congrArg some (by kernel_rfl))⟩
  t4 := Tryd.underlying4
  a4 := Tryd.isAgg4
  z4 := Tryd.sizeOf4
  v4 := Tryd.zeroValue4
  t22 := Tryd.underlying28
  a22 := Tryd.isAgg28
  z22 := Tryd.sizeOf28
  v22 := Tryd.zeroValue28 }
namespace YtjdgnajjggjljaaDoor
open Go.Lib Go.Sort
/-- a path, with the place where it lies -/
structure PC (w : World) (S : Nat → Prop) where
  p : List El
  ao : Option Addr
  cap : Nat
  b : Nat
  o : Nat
  hh : Headed ao p.length cap b o
  hl : liesP w S p b o
instance pcThere (w : World) (S : Nat → Prop) : Inhabited (PC w S) := ⟨⟨[], none, 0, 0, 0, ⟨Nat.le_refl _, by simp [maxLen], .inl rfl, fun _ => rfl⟩, fun j h => by simp at h⟩⟩
def PC.enc {w : World} {S : Nat → Prop} (x : PC w S) : Value := .slice x.ao x.p.length x.cap
def PC.cmp {w : World} {S : Nat → Prop} (x y : PC w S) : Int := lexL oeE x.p y.p
theorem PC.lies {w w' : World} {S S' : Nat → Prop} (x : PC w S) (hw : ∀ b, S b → w'.heap[b]? = w.heap[b]?) (hS : ∀ b, S b → S' b) : Pl.lies w' S' x.p x.enc := ⟨x.ao, x.cap, x.b, x.o, rfl, x.hh, liesP_keep hw hS x.hl⟩
theorem pc_of {w : World} {S : Nat → Prop} {l : List (List El)} {b o : Nat} (h : liesQ w S l b o) : ∃ d : List (PC w S), d.map PC.p = l ∧ ∀ (j : Nat) (hj : j < d.length), w.cell? ⟨b, o + j, none⟩ = some (d[j]).enc := by
  have h1 : ∀ j : Fin l.length, ∃ x : PC w S, x.p = l[j] ∧ w.cell? ⟨b, o + j, none⟩ = some x.enc := fun j => by
    obtain ⟨_, v, hv, ap, cp, bp, op, rfl, hh, hl⟩ := h j j.2
    exact ⟨⟨l[j], ap, cp, bp, op, hh, hl⟩, rfl, hv⟩
  obtain ⟨f, hf⟩ := Classical.axiomOfChoice h1
  refine ⟨List.ofFn f, ?_, fun j hj => ?_⟩
  · apply List.ext_getElem
    · simp
    · intro i h1 h2
      rw [List.getElem_map, List.getElem_ofFn]
      exact (hf _).1
  · rw [List.getElem_ofFn]
    exact (hf ⟨j, by simpa using hj⟩).2
theorem pc_lt {w : World} {S : Nat → Prop} {x y : PC w S} : ltOf PC.cmp x y = true ↔ lexL oeE x.p y.p < 0 := by rw [ltOf]; exact decide_eq_true_iff
theorem pc_lt_no {w : World} {S : Nat → Prop} {x y : PC w S} : ltOf PC.cmp x y = false ↔ ¬ lexL oeE x.p y.p < 0 := by rw [ltOf]; exact decide_eq_false_iff_not
theorem pc_swo {w : World} {S : Nat → Prop} : SWO (ltOf (PC.cmp (w := w) (S := S))) where
  irrefl x := by rw [pc_lt_no]; have := wk_P.self x.p; omega
  trans x y z h1 h2 := by rw [pc_lt] at *; exact wk_P.tri _ _ _ h1 h2
  ntrans x y z h1 h2 := by
    rw [pc_lt_no] at *
    intro h3
    have ha := wk_P.anti x.p y.p
    rcases Int.lt_trichotomy (lexL oeE x.p y.p) 0 with h | h | h
    · exact h1 h
    · have := wk_P.cong _ _ z.p h
      omega
    · have := wk_P.tri y.p x.p z.p (by omega) h3
      exact h2 this
/-- slices.Clone of paths: not nil -/
theorem pclone_any {w0 : World} {S : Nat → Prop} (d : List (PC w0 S)) (b off c : Nat) (w : World) (hr : ∀ (j : Nat) (h : j < d.length), w.cell? ⟨b, off + j, none⟩ = some (d[j]).enc) (hn : d.length ≤ 2147483647) :
    Calls Tryd.prog 36 #[.slice (some ⟨b, off, none⟩) d.length c] w fun e w' => ∃ g cap, e = .returned (.slice (some ⟨g, 0, none⟩) d.length cap) ∧ w.heap.size ≤ g ∧ g < w'.heap.size ∧ d.length ≤ cap ∧ cap ≤ maxLen ∧ Holds PC.enc w' g 0 d.toArray ∧ Below w.heap.size w w' := by
  obtain ⟨i0, hi0, hz0, hz1, hz2⟩ := info_parts info33
  have hmax : d.length ≤ maxLen := Nat.le_trans hn (by decide)
  have hcon := AnyE.slices_Clone Tryd.clone36 i0 _ 1 24 hi0 hz0 hz1 hz2 (by rfl) (by omega) Tryd.sizeOf23 b off d.length c (d.map PC.enc) w (by simp) hmax (by omega) (fun j u hu => by
      rw [List.getElem?_map] at hu
      obtain ⟨x, hx, rfl⟩ := Option.map_eq_some_iff.1 hu
      obtain ⟨hj, rfl⟩ := List.getElem?_eq_some_iff.1 hx
      exact hr j hj) (fun u hu => by obtain ⟨x, _, rfl⟩ := List.mem_map.1 hu; rfl)
  change Calls Tryd.prog 36 _ _ _ at hcon
  refine hcon.mono ?_
  rintro e w' ⟨v', rfl, ho, hne, hb⟩
  obtain ⟨_, ho⟩ := ho
  rcases ho with ⟨rfl, _⟩ | ⟨g, cap, cur, rfl, hg, hblk, hle, hm, hcs, hpre⟩
  · exact absurd rfl hne
  · have hlt : g < w'.heap.size := by
      rcases Nat.lt_or_ge g w'.heap.size with h | h
      · exact h
      · rw [Array.getElem?_eq_none h] at hblk; cases hblk
    refine ⟨g, cap, rfl, hg, hlt, hle, hm, ?_, hb⟩
    intro j hj
    have hj' : j < d.length := by simpa using hj
    refine ⟨?_, ?_⟩
    · rw [Nat.zero_add, cell_of_block hblk, ← Array.getElem?_toList]
      have e1 : cur.toList[j]? = (cur.toList.take (d.length * 1))[j]? := by rw [List.getElem?_take, if_pos (by omega)]
      rw [e1, hpre, List.getElem?_map, List.getElem?_eq_getElem hj']
      simp [hj']
    · exact frozen_of_block hblk _
theorem pclone_nil (n c : Nat) (w : World) : Calls Tryd.prog 36 #[.slice none n c] w fun e w' => e = .returned (.slice none 0 0) ∧ w' = w :=
  AnyE.slices_Clone_nil Tryd.clone36 n c w
theorem sortW_below {α : Type} [Inhabited α] {enc : α → Value} {w0 : World} {B g off n : Nat} {d : Array α} {os : Array Obj} (h : B ≤ g) (hB : B ≤ w0.heap.size) : Below B w0 (sortWorld enc w0 g off n d os) := by
  refine ⟨rfl, rfl, rfl, (SW.le (enc := enc) (w0 := w0) (blk := g) (off := off) (dk := d) ⟨n, os, rfl⟩), fun k hk => ?_⟩
  have e : (sortWorld enc w0 g off n d os).heap = (w0.heap.modify g (onCells (Go.Sort.putCells enc off d))) ++ os := rfl
  rw [e, Array.getElem?_append_left (by rw [Array.size_modify]; omega), Array.getElem?_modify, if_neg (by omega)]
/-- slices.SortFunc of paths, by their order -/
theorem psort_any {w0 : World} {S : Nat → Prop} (hS0 : ∀ b, S b → b < w0.heap.size) (d : List (PC w0 S)) (g cap : Nat) (w : World) (hw : Below w0.heap.size w0 w) (hg0 : w0.heap.size ≤ g) (hH : Holds PC.enc w g 0 d.toArray) (hg : g < w.heap.size) (hn : d.length ≤ 2147483647) :
    Calls Tryd.prog 37 #[.slice (some ⟨g, 0, none⟩) d.length cap, .func (.func 29) #[] #[]] w fun e w' => e = .returned (.tuple #[]) ∧ ∃ d' : List (PC w0 S), d'.Perm d ∧ d'.Pairwise (fun a b => ¬ lexL oeE b.p a.p < 0) ∧ Holds PC.enc w' g 0 d'.toArray ∧ g < w'.heap.size ∧ (∀ B, B ≤ g → Below B w w') := by
  have eg : ∀ args w, (callFunc 29 args).run Tryd.prog w = .ok (.enter 29 args) w := enters_of Tryd.func29 (by kernel_rfl) rfl
  have hlay : CmpLays1 Tryd.prog 29 #[] PC.enc PC.cmp g 0 d.toArray.size w := fun m os dk hs x y => by
    have hb : Below w0.heap.size w (sortWorld PC.enc w g 0 m dk os) := sortW_below hg0 hw.size
    have hk : ∀ b, S b → (sortWorld PC.enc w g 0 m dk os).heap[b]? = w0.heap[b]? := fun b h => (hb.block b (hS0 b h)).trans (hw.block b (hS0 b h))
    have hsz : ∀ b, S b → b < (sortWorld PC.enc w g 0 m dk os).heap.size := fun b h => Nat.lt_of_lt_of_le (hS0 b h) (Nat.le_trans hw.size hb.size)
    refine (opaths_anyD x.p y.p S S x.ao x.cap x.b x.o y.ao y.cap y.b y.o _ x.hh (liesP_keep hk (fun _ h => h) x.hl) y.hh (liesP_keep hk (fun _ h => h) y.hl) hsz hsz).mono ?_
    rintro e w' ⟨rfl, hb'⟩
    exact ⟨rfl, hb'.grow⟩
  have hcon := Any.slices_SortFunc Tryd.sort37 PC.enc (fun _ => rfl) PC.cmp pc_swo 29 #[] g 0 cap d.toArray w eg hlay hH hg (by simp; omega)
  have e0 : d.toArray.size = d.length := by simp
  rw [e0] at hcon
  change Calls Tryd.prog 37 _ _ _ at hcon
  refine hcon.mono ?_
  rintro e w' ⟨rfl, d', n, os, ⟨hs, _, hp⟩, hsrt, rfl⟩
  have hs' : d'.size = d.length := by rw [hs]; simp
  have hSW : SW PC.enc w g 0 d' (sortWorld PC.enc w g 0 n d' os) := ⟨n, os, rfl⟩
  refine ⟨rfl, d'.toList, ?_, ?_, ?_, hSW.lt hg, fun B hB => sortW_below hB (by omega)⟩
  · have h1 : d'.extract 0 d.length = d' := by rw [← hs']; simp
    have h2 : d.toArray.extract 0 d.length = d.toArray := by rw [← e0]; simp
    rw [h1, h2] at hp
    exact hp
  · refine List.pairwise_iff_getElem.2 fun i j hi hj hij => ?_
    have hi' : i < d'.size := by simpa using hi
    have hj' : j < d'.size := by simpa using hj
    have := hsrt i j (Nat.zero_le _) hij (by omega)
    rw [pc_lt_no, getElem!_pos d' i hi', getElem!_pos d' j hj'] at this
    exact this
  · have := hSW.holds hg hH (by rw [hs])
    simpa using this
end YtjdgnajjggjljaaDoor
end Go.Proofs
