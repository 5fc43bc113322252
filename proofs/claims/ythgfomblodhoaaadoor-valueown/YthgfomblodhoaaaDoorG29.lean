/- joined: BldQ OrsP RwtP HldA AnxL -/
import Derived.Test.YthgfomblodhoaaaDoorG28
import Derived.Test.YthgfomblodhoaaaDoorG27
import Derived.Test.YthgfomblodhoaaaDoorG13
/- What Build answers: one list in the keys' order. -/
set_option linter.unusedSimpArgs false
set_option linter.unusedVariables false
namespace Go.Proofs.YthgfomblodhoaaaDoor
open Go.RowKit Go.Lib
def leM (a b : Mem) : Bool := !ltB b.1 a.1
def srtM (l : List Mem) : List Mem := l.mergeSort leM
theorem srtM_perm (l : List Mem) : (srtM l).Perm l := List.mergeSort_perm _ _
theorem srtM_wk (l : List Mem) : Wkl (srtM l) := by
  have h := List.pairwise_mergeSort (le := leM) (fun a b c h1 h2 => by
    simp only [leM, Bool.not_eq_true'] at *
    exact ltB_ntrans h2 h1) (fun a b => by
    simp only [leM]
    cases h1 : ltB b.1 a.1 with
    | false => simp
    | true =>
      have : ltB a.1 b.1 = false := by
        rw [Bool.eq_false_iff]
        intro h2
        have := ltB_trans h1 h2
        rw [ltB_irr] at this
        cases this
      simp [this]) l
  exact h.imp fun {a b} h1 => by simpa [leM] using h1
/-- fit to be built of: each value taken, each key UTF-8, no key twice -/
structure Fine (l : List Mem) : Prop where
  ok : ∀ x ∈ l, okV x.2 = true ∧ utfB x.1 = true
  ne : l.Pairwise (fun a b => ¬ a.1.toList = b.1.toList)
theorem Fine.perm {l l' : List Mem} (h : Fine l) (hp : l.Perm l') : Fine l' :=
  ⟨fun x hx => h.ok x (hp.mem_iff.2 hx), (hp.pairwise_iff fun {x y} h e => h e.symm).1 h.ne⟩
theorem fine_srt {l : List Mem} (h : Fine l) (hw : Wkl l) : Srt l := by
  have := List.Pairwise.and hw h.ne
  exact this.imp fun {a b} h1 => ltB_tri h1.1 (fun e => h1.2 e.symm)
theorem srt_ne {l : List Mem} (h : Srt l) : l.Pairwise (fun a b => ¬ a.1.toList = b.1.toList) := h.imp fun {a b} h1 e => by
  have h2 := (ltB_cmp a.1 b.1).1 h1
  have h3 := (cmpS_zero a.1 b.1).2 e
  omega
theorem srt_uniq : ∀ {l1 l2 : List Mem}, l1.Perm l2 → Srt l1 → Wkl l2 → l1 = l2
  | [], l2, hp, _, _ => (List.Perm.nil_eq hp)
  | a :: t1, [], hp, _, _ => by have := hp.length_eq; simp at this
  | a :: t1, b :: t2, hp, h1, h2 => by
    have e : a = b := by
      have ha : a ∈ b :: t2 := hp.mem_iff.1 (by simp)
      have hb : b ∈ a :: t1 := hp.mem_iff.2 (by simp)
      rcases List.mem_cons.1 ha with e | ha
      · exact e
      rcases List.mem_cons.1 hb with e | hb
      · exact e.symm
      have k1 := (List.pairwise_cons.1 h1).1 b hb
      have k2 := (List.pairwise_cons.1 h2).1 a ha
      rw [k1] at k2
      cases k2
    subst e
    rw [srt_uniq (hp.cons_inv) (List.pairwise_cons.1 h1).2 (List.pairwise_cons.1 h2).2]
theorem rise_utf {l : List Mem} (h : riseB l = true) : ∀ x ∈ l, utfB x.1 = true := by
  intro x hx
  obtain ⟨j, hj, rfl⟩ := List.getElem_of_mem hx
  have h0 : ∀ j, j < l.length → okAt l j = true := by
    simpa only [riseB, List.all_eq_true, List.mem_range] using h
  have := h0 j hj
  rw [okAt, keyAt_eq hj] at this
  exact (Bool.and_eq_true _ _ ▸ this).1
theorem mapE_bad {l : List Mem} (h : riseB l = false) : mapE l = 20 := by
  have hg : goodB 5 false 0 ⟨#[]⟩ 0 l = false := by simp [goodB, h]
  rw [mapE, chkE40, chkV]
  simp [entF, hg]
theorem mapV_bad {l : List Mem} (h : mapE l = 20) : mapV l = nullV := by rw [mapV, if_neg (by rw [h]; omega)]
end Go.Proofs.YthgfomblodhoaaaDoor
/- What is taken stays taken below; what Build answers of other orders; what is found at a key. -/
namespace Go.Proofs.YthgfomblodhoaaaDoor
open Go.RowKit Go.Lib
open Classical in
noncomputable def bvV (l : List Mem) : V × Nat := if Fine l then (mapV (srtM l), mapE (srtM l)) else (nullV, 20)
theorem key_is {key : ByteArray} {x : Mem} : keyIs key (some x) = (x.1.toList == key.toList) := rfl
end Go.Proofs.YthgfomblodhoaaaDoor
/- What With and Without answer, as rows that are chosen. -/
namespace Go.Proofs.YthgfomblodhoaaaDoor
open Go.RowKit Go.Lib
def withL (m : List Mem) (key : ByteArray) (x : V) : List Mem := m.take (posF m key) ++ (key, x) :: m.drop (if keyIs key m[posF m key]? = true then posF m key + 1 else posF m key)
def withE (v : V) (key : ByteArray) (x : V) : Nat := match v with
  | .mk k b i s l m => if k = 5 ∧ okV (.mk k b i s l m) = true ∧ okV x = true then mapE (withL m key x) else 20
def withV (v : V) (key : ByteArray) (x : V) : V := match v with
  | .mk k b i s l m => if k = 5 ∧ okV (.mk k b i s l m) = true ∧ okV x = true then mapV (withL m key x) else nullV
theorem key_hit {m : List Mem} {key : ByteArray} {p : Nat} (h : keyIs key m[p]? = true) : ∃ hp : p < m.length, (m[p]).1.toList = key.toList := by
  rcases Nat.lt_or_ge p m.length with h1 | h1
  · refine ⟨h1, ?_⟩
    rw [List.getElem?_eq_getElem h1, key_is] at h
    simpa using h
  · rw [List.getElem?_eq_none h1] at h
    simp [keyIs] at h
end Go.Proofs.YthgfomblodhoaaaDoor
/- Blocks that a region leaves as they were: what its loads read may be read first. -/
namespace Go.Proofs.YthgfomblodhoaaaDoor
open Go.RowKit Go.Lib
/-- the blocks of A are as they were in w -/
def KeepB (w : World) (A : Nat → Prop) (W : World) : Prop := ∀ b, A b → W.heap[b]? = w.heap[b]?
theorem KeepB.refl (w : World) (A : Nat → Prop) : KeepB w A w := fun _ _ => rfl
theorem KeepB.drew (w : World) (A : Nat → Prop) : KeepB w A w.drew := fun _ _ => rfl
theorem KeepB.cell {w : World} {A : Nat → Prop} {W : World} (h : KeepB w A W) {b o : Nat} {v : Value} (hb : A b) (hc : w.cell? ⟨b, o, none⟩ = some v) : W.cell? ⟨b, o, none⟩ = some v :=
  (World.cell?_of_block (w := w) (a := ⟨b, o, none⟩) (h b hb)).trans hc
theorem KeepB.row {w : World} {A : Nat → Prop} {W : World} (h : KeepB w A W) {b o : Nat} {cs : List Value} (hb : A b) (hr : rowAt w b o cs) : rowAt W b o cs := hr.keep (h b hb)
theorem KeepB.below {w : World} {A : Nat → Prop} {W W' : World} {N : Nat} (h : KeepB w A W) (hb : Below N W W') (hA : ∀ b, A b → b < N) : KeepB w A W' := fun b hb' => (hb.block b (hA b hb')).trans (h b hb')
theorem KeepB.alloc {w : World} {A : Nat → Prop} {W : World} (h : KeepB w A W) (hA : ∀ b, A b → b < W.heap.size) (o : Obj) : KeepB w A (W.alloc o) := fun b hb => (Below.heap_alloc W o b (hA b hb)).trans (h b hb)
theorem KeepB.grown {w : World} {A : Nat → Prop} {W W' : World} {row : Option Nat} (h : KeepB w A W) (g : W.grownBy W' row) (hA : ∀ b, A b → b < W.heap.size ∧ some b ≠ row) : KeepB w A W' := fun b hb => (g.block b (hA b hb).1 (hA b hb).2).trans (h b hb)
theorem KeepB.set {w : World} {A : Nat → Prop} {W : World} (h : KeepB w A W) {M : Nat} (hM : ∀ b, A b → b ≠ M) (i : Nat) (u : Value) : KeepB w A (W.setCell ⟨M, i, none⟩ u) := fun b hb => by
  rw [set_other (hM b hb)]; exact h b hb
theorem KeepB.set6 {w : World} {A : Nat → Prop} {W : World} (h : KeepB w A W) {M : Nat} (hM : ∀ b, A b → b ≠ M) (i1 i2 i3 i4 i5 i6 : Nat) (u1 u2 u3 u4 u5 u6 : Value) :
    KeepB w A ((((((W.setCell ⟨M, i1, none⟩ u1).setCell ⟨M, i2, none⟩ u2).setCell ⟨M, i3, none⟩ u3).setCell ⟨M, i4, none⟩ u4).setCell ⟨M, i5, none⟩ u5).setCell ⟨M, i6, none⟩ u6) :=
  (((((h.set hM i1 u1).set hM i2 u2).set hM i3 u3).set hM i4 u4).set hM i5 u5).set hM i6 u6
theorem row_of_block {w : World} {b : Nat} {cs : List Value} {t : TypeId} (h : w.heap[b]? = some (.cells cs.toArray t (0, 0))) : rowAt w b 0 cs := fun j u hu => by
  rw [cell_of_block h]
  simpa using hu
end Go.Proofs.YthgfomblodhoaaaDoor
/- value.anewList: each list and map in a block of its own. -/
namespace Go.Proofs.YthgfomblodhoaaaDoor
open Go.RowKit Go.Lib
def ApPost (v : V) (w : World) (e : Ending) (w' : World) : Prop := ∃ cs : List Value, e = .returned (.agg cs.toArray) ∧ v.ap w' w.heap.size w'.heap.size cs ∧ Below w.heap.size w w'
def ApLPost (l : List V) (w : World) (e : Ending) (w' : World) : Prop := ∃ e1, e = .returned (.slice (some ⟨w.heap.size, 0, none⟩) l.length l.length) ∧ w.heap.size < e1 ∧ e1 ≤ w'.heap.size ∧ apE w' l e1 w'.heap.size w.heap.size 0 ∧ Blk w.heap.size 25 (l.length * 6) w' ∧ Below w.heap.size w w'
def ApMPost (l : List Mem) (w : World) (e : Ending) (w' : World) : Prop := ∃ e1, e = .returned (.slice (some ⟨w.heap.size, 0, none⟩) l.length l.length) ∧ w.heap.size < e1 ∧ e1 ≤ w'.heap.size ∧ apF w' l e1 w'.heap.size w.heap.size 0 ∧ Blk w.heap.size 38 (l.length * 7) w' ∧ Below w.heap.size w w'
theorem rise_le {B : Nat → Nat} {j : Nat} (h : ∀ i, i < j → B i ≤ B (i + 1)) : ∀ {i k : Nat}, i ≤ k → k ≤ j → B i ≤ B k := fun {i k} hik hk => by
  induction k with
  | zero =>
    obtain rfl : i = 0 := by omega
    exact Nat.le_refl _
  | succ k ih =>
    rcases Nat.lt_or_ge i (k + 1) with h1 | h1
    · exact Nat.le_trans (ih (by omega) (by omega)) (h k (by omega))
    · obtain rfl : i = k + 1 := by omega
      exact Nat.le_refl _
/-- the rows that stand so far in the block g -/
def RowsA (l : List V) (j g : Nat) (w : World) : Prop := ∃ B : Nat → Nat, g < B 0 ∧ (∀ i, i < j → B i ≤ B (i + 1)) ∧ B j ≤ w.heap.size ∧ ∀ (i : Nat) (h : i < l.length), i < j → ∃ cs, rowAt w g (i * 6) cs ∧ cs.length = 6 ∧ (l[i]).ap w (B i) (B (i + 1)) cs
theorem RowsA.zero {l : List V} {g : Nat} {w : World} (h : g < w.heap.size) : RowsA l 0 g w := ⟨fun _ => w.heap.size, h, fun i hi => by omega, Nat.le_refl _, fun i hi h => by omega⟩
theorem RowsA.below {l : List V} {j g : Nat} {w w' : World} (h : RowsA l j g w) (hg : g < w.heap.size) (hb : Below w.heap.size w w') : RowsA l j g w' := by
  obtain ⟨B, h0, h1, h2, h3⟩ := h
  refine ⟨B, h0, h1, Nat.le_trans h2 hb.size, fun i hi hij => ?_⟩
  obtain ⟨cs, r, hl, ha⟩ := h3 i hi hij
  exact ⟨cs, r.keep (hb.block g hg), hl, V.ap_keep _ (fun y y1 y2 => hb.block y (by have := rise_le h1 (show i + 1 ≤ j by omega) (Nat.le_refl _); omega)) ha⟩
/-- one row more -/
theorem RowsA.store {l : List V} {j g n : Nat} {w wa w3 : World} (h : RowsA l j g wa) (hga : g < wa.heap.size) (hb : Below wa.heap.size wa w3) (hB : Blk g 25 n w3) (hj : j < l.length) (hn : j * 6 + 6 ≤ n) {c0 c1 c2 c3 c4 c5 : Value} (hv : (l[j]).ap w3 wa.heap.size w3.heap.size [c0, c1, c2, c3, c4, c5]) (hw : Below w.heap.size w w3) (hg : w.heap.size ≤ g) :
    RowsA l (j + 1) g ((((((w3.setCell ⟨g, j * 6, none⟩ c0).setCell ⟨g, j * 6 + 1, none⟩ c1).setCell ⟨g, j * 6 + 2, none⟩ c2).setCell ⟨g, j * 6 + 3, none⟩ c3).setCell ⟨g, j * 6 + 4, none⟩ c4).setCell ⟨g, j * 6 + 5, none⟩ c5) ∧
    Blk g 25 n ((((((w3.setCell ⟨g, j * 6, none⟩ c0).setCell ⟨g, j * 6 + 1, none⟩ c1).setCell ⟨g, j * 6 + 2, none⟩ c2).setCell ⟨g, j * 6 + 3, none⟩ c3).setCell ⟨g, j * 6 + 4, none⟩ c4).setCell ⟨g, j * 6 + 5, none⟩ c5) ∧
    Below w.heap.size w ((((((w3.setCell ⟨g, j * 6, none⟩ c0).setCell ⟨g, j * 6 + 1, none⟩ c1).setCell ⟨g, j * 6 + 2, none⟩ c2).setCell ⟨g, j * 6 + 3, none⟩ c3).setCell ⟨g, j * 6 + 4, none⟩ c4).setCell ⟨g, j * 6 + 5, none⟩ c5) := by
  have hs := hb.size
  obtain ⟨arr, k1, k2⟩ := hB
  obtain ⟨arr', e1, e2, e3, e4, e5, e6⟩ := set6_row k1 (o := j * 6) (by omega) c0 c1 c2 c3 c4 c5
  have hBl := Below.set6 hw hg (j * 6) (j * 6 + 1) (j * 6 + 2) (j * 6 + 3) (j * 6 + 4) (j * 6 + 5) c0 c1 c2 c3 c4 c5
  have hsz : ((((((w3.setCell ⟨g, j * 6, none⟩ c0).setCell ⟨g, j * 6 + 1, none⟩ c1).setCell ⟨g, j * 6 + 2, none⟩ c2).setCell ⟨g, j * 6 + 3, none⟩ c3).setCell ⟨g, j * 6 + 4, none⟩ c4).setCell ⟨g, j * 6 + 5, none⟩ c5).heap.size = w3.heap.size := e6
  obtain ⟨B, h0, h1, h2, h3⟩ := h
  have hle : ∀ {i k : Nat}, i ≤ k → k ≤ j → B i ≤ B k := rise_le h1
  generalize ((((((w3.setCell ⟨g, j * 6, none⟩ c0).setCell ⟨g, j * 6 + 1, none⟩ c1).setCell ⟨g, j * 6 + 2, none⟩ c2).setCell ⟨g, j * 6 + 3, none⟩ c3).setCell ⟨g, j * 6 + 4, none⟩ c4).setCell ⟨g, j * 6 + 5, none⟩ c5) = W at *
  refine ⟨⟨fun q => if q ≤ j then B q else w3.heap.size, ?_, ?_, ?_, ?_⟩, ⟨arr', e1, by omega⟩, hBl⟩
  · show g < (if 0 ≤ j then B 0 else _)
    rw [if_pos (Nat.zero_le _)]; exact h0
  · intro i hi
    show (if i ≤ j then B i else _) ≤ (if i + 1 ≤ j then B (i + 1) else _)
    rw [if_pos (by omega)]
    by_cases hij : i + 1 ≤ j
    · rw [if_pos hij]; exact h1 i (by omega)
    · rw [if_neg hij]; have := hle (show i ≤ j by omega) (Nat.le_refl _); omega
  · show (if j + 1 ≤ j then _ else w3.heap.size) ≤ _
    rw [if_neg (by omega)]; omega
  · intro i hi hij
    have bg := hle (Nat.zero_le j) (Nat.le_refl _)
    by_cases hij' : i < j
    · obtain ⟨cs, r, hl, ha⟩ := h3 i hi hij'
      have c1 := hle (show i + 1 ≤ j by omega) (Nat.le_refl _)
      have c0' := hle (Nat.zero_le i) (show i ≤ j by omega)
      refine ⟨cs, fun q u hu => ?_, hl, ?_⟩
      · have := (r.keep (hb.block g hga)) q u hu
        have hq : q < 6 := by
          rcases Nat.lt_or_ge q 6 with h | h
          · exact h
          · rw [List.getElem?_eq_none (by omega)] at hu; cases hu
        rw [cell_of_block k1] at this
        rw [cell_of_block e1, e3 _ (by omega)]
        exact this
      · show (l[i]).ap W (if i ≤ j then B i else _) (if i + 1 ≤ j then B (i + 1) else _) cs
        rw [if_pos (by omega), if_pos (by omega)]
        exact V.ap_keep _ (fun y y1 y2 => (e5 y (by omega)).trans (hb.block y (by omega))) ha
    · obtain rfl : i = j := by omega
      refine ⟨_, e4, rfl, ?_⟩
      show (l[i]).ap W (if i ≤ i then B i else _) (if i + 1 ≤ i then _ else w3.heap.size) _
      rw [if_pos (Nat.le_refl _), if_neg (by omega)]
      exact V.ap_wide (V.ap_keep _ (fun y y1 y2 => e5 y (by omega)) hv) (by omega) (Nat.le_refl _)
theorem apE_wide {w : World} : ∀ {l : List V} {lo hi hi' b o : Nat}, apE w l lo hi b o → hi ≤ hi' → apE w l lo hi' b o
  | [], lo, hi, hi', b, o, _, _ => by rw [apE]; trivial
  | x :: t, lo, hi, hi', b, o, h, hh => by
    rw [apE] at h ⊢
    obtain ⟨mid, c1, c2, c3, c4⟩ := h
    exact ⟨mid, c1, by omega, c3, apE_wide c4 hh⟩
theorem apF_wide {w : World} : ∀ {l : List Mem} {lo hi hi' b o : Nat}, apF w l lo hi b o → hi ≤ hi' → apF w l lo hi' b o
  | [], lo, hi, hi', b, o, _, _ => by rw [apF]; trivial
  | (k, x) :: t, lo, hi, hi', b, o, h, hh => by
    rw [apF] at h ⊢
    obtain ⟨mid, c1, c2, c3, c4⟩ := h
    exact ⟨mid, c1, by omega, c3, apF_wide c4 hh⟩
set_option maxHeartbeats 4000000 in
set_option maxRecDepth 100000 in
theorem anewL_ap (l : List V) (R : Bool) (S : Nat → Prop) (al : Option Addr) (cl bl ol : Nat) (w : World) (hal : Headed al l.length cl bl ol) (hl : liesL R w S l bl ol) (hS : ∀ b, S b → b < w.heap.size) (hwt : wtL l ≤ 1099511627776)
    (ih : ∀ (j : Nat) (h : j < l.length) (cs : List Value) (W : World), (l[j]).lies R W S cs → (∀ b, S b → b < W.heap.size) → Calls Tryd.prog 37 #[.agg cs.toArray] W (ApPost l[j] W)) :
    Calls Tryd.prog 52 #[.slice al l.length cl] w (ApLPost l w) := by
  have HL : Hid (liesL R w S l bl ol) := hl
  have IH : Hid _ := ih
  clear hl ih
  have hlen := wtL_len l
  obtain ⟨i0, hi0, hz0, hz1, hz2⟩ := info_parts info25
  have hmk : ∀ W, (Instr.makeSlice 22 (.int .i64 (l.length : Int)) (.int .i64 (l.length : Int))).run Tryd.prog W = .ok (.slice (some ⟨W.heap.size, 0, none⟩) l.length l.length) (W.alloc (.cells (madeCells #[.int .i64 0, .bool false, .int .i64 0, .string ⟨#[]⟩, .slice none 0 0, .slice none 0 0] (l.length * 6)) 25)) := fun W => by
    have h := run_make (P := Tryd.prog) W 22 25 i0 _ Tryd.underlying22 hi0 hz0 .i64 .i64 (l.length : Int) (l.length : Int) (by omega) (by omega) (by rw [hz2]; omega) (by omega)
    rw [hz1] at h
    simpa [Value.cells] using h
  have hzm := alloc_size w (.cells (madeCells #[.int .i64 0, .bool false, .int .i64 0, .string ⟨#[]⟩, .slice none 0 0, .slice none 0 0] (l.length * 6)) 25)
  have B0 : Below w.heap.size w (w.alloc (.cells (madeCells #[.int .i64 0, .bool false, .int .i64 0, .string ⟨#[]⟩, .slice none 0 0, .slice none 0 0] (l.length * 6)) 25)) := (Below.refl _ _).alloc (Nat.le_refl _) _
  have K0 : Blk w.heap.size 25 (l.length * 6) (w.alloc (.cells (madeCells #[.int .i64 0, .bool false, .int .i64 0, .string ⟨#[]⟩, .slice none 0 0, .slice none 0 0] (l.length * 6)) 25)) := ⟨_, heap_alloc_new w _, size_madeCells _ _⟩
  clear hi0 hz0 hz1 hz2
  go_enter Tryd.func52, Tryd.ntmps52
  go_wp2_with fail
  clear hmk
  generalize (w.alloc (.cells (madeCells #[.int .i64 0, .bool false, .int .i64 0, .string ⟨#[]⟩, .slice none 0 0, .slice none 0 0] (l.length * 6)) 25)) = w0 at *
  go_loopw [11] (fun e wr => ∃ j : Nat, j ≤ l.length ∧ e = .int .i64 (j : Int) ∧ w0.heap.size ≤ wr.heap.size ∧ Hid (RowsA l j w.heap.size wr) ∧ Hid (Blk w.heap.size 25 (l.length * 6) wr) ∧ Below w.heap.size w wr) (fun e _ => l.length - (RowKit.intOf e).toNat)
  case atStart => exact ⟨0, by omega, rfl, by omega, (RowsA.zero (by omega)), K0, B0⟩
  case round =>
    clear K0 B0
    obtain ⟨j, hj, rfl, hzr, HR, HK, bj⟩ := hrel
    by_cases hjl : j < l.length
    · have y1 : (j : Int) < l.length := by omega
      obtain ⟨hSb, csj, hrow, hlj⟩ := liesL_get HL.out j hjl
      obtain rfl : al = some ⟨bl, ol, none⟩ := hal.at_.resolve_left (by omega)
      have hkw : ∀ x, S x → wr.heap[x]? = w.heap[x]? := fun x hx => bj.block x (hS x hx)
      have hlj0 := hlj
      obtain ⟨ek, eb, ei, es, eal, enl, ecl, eam, enm, ecm, rfl⟩ := V.ten hlj
      obtain ⟨q0, q1, q2, q3, q4, q5⟩ := row6 (hrow.keep (hkw _ hSb))
      have hza := alloc_size wr (.cells #[.int .i64 ek, .bool eb, .int .i64 ei, .string es, .slice eal enl ecl, .slice eam enm ecm] 25)
      have ba : Below wr.heap.size wr (wr.alloc (.cells #[.int .i64 ek, .bool eb, .int .i64 ei, .string es, .slice eal enl ecl, .slice eam enm ecm] 25)) := (Below.refl _ _).alloc (Nat.le_refl _) _
      have hc := IH.out j hjl _ (wr.alloc (.cells #[.int .i64 ek, .bool eb, .int .i64 ei, .string es, .slice eal enl ecl, .slice eam enm ecm] 25)) (V.lies_keep (fun h => h) (fun x hx => (ba.block x (by have := hS x hx; omega)).trans (hkw x hx)) (fun _ h => h) _ hlj0) (fun x hx => by have := hS x hx; omega)
      have HR1 : Hid (RowsA l j w.heap.size (wr.alloc (.cells #[.int .i64 ek, .bool eb, .int .i64 ei, .string es, .slice eal enl ecl, .slice eam enm ecm] 25))) := HR.out.below (by omega) ba
      have HK1 : Hid (Blk w.heap.size 25 (l.length * 6) (wr.alloc (.cells #[.int .i64 ek, .bool eb, .int .i64 ei, .string es, .slice eal enl ecl, .slice eam enm ecm] 25))) := HK.out.keep (ba.block _ (by omega))
      have B1 : Below w.heap.size w (wr.alloc (.cells #[.int .i64 ek, .bool eb, .int .i64 ei, .string es, .slice eal enl ecl, .slice eam enm ecm] 25)) := bj.trans (ba.mono (by omega))
      clear hlj hlj0 hrow hkw HR HK
      go_wp2_with fail
      generalize (wr.alloc (.cells #[.int .i64 ek, .bool eb, .int .i64 ei, .string es, .slice eal enl ecl, .slice eam enm ecm] 25)) = wa at *
      refine hc.mono ?_
      rintro e w3 ⟨csu, rfl, hlu, b3⟩
      obtain ⟨uk, ub, ui, us, ual, unl, ucl, uam, unm, ucm, rfl⟩ := V.ten (V.ap_lies _ hlu)
      have hz3 := b3.size
      have HK3 : Blk w.heap.size 25 (l.length * 6) w3 := HK1.out.keep (b3.block _ (by omega))
      have B3 := B1.trans (b3.mono (by omega))
      have HS : Hid _ := HR1.out.store (by omega) b3 HK3 hjl (by omega) hlu B3 (Nat.le_refl _)
      obtain ⟨v0, k0⟩ := HK3.cell (j * 6) (by omega)
      obtain ⟨v1, k1⟩ := HK3.cell (j * 6 + 1) (by omega)
      obtain ⟨v2, k2⟩ := HK3.cell (j * 6 + 2) (by omega)
      obtain ⟨v3, k3⟩ := HK3.cell (j * 6 + 3) (by omega)
      obtain ⟨v4, k4⟩ := HK3.cell (j * 6 + 4) (by omega)
      obtain ⟨v5, k5⟩ := HK3.cell (j * 6 + 5) (by omega)
      have kf := HK3.frozen
      clear hlu HK3 HR1 HK1 B3 B1 b3 q0 q1 q2 q3 q4 q5 hc ba
      go_wp2_with fail
      go_roundw
      case rel => exact ⟨j + 1, by omega, by go_num, by simp [size_set1]; omega, HS.out.1, HS.out.2.1, HS.out.2.2⟩
      case measure => simp [RowKit.intOf]; omega
    · obtain rfl : j = l.length := by omega
      have y1 : ¬ (l.length : Int) < l.length := by omega
      have HF : Hid (∃ e1, w.heap.size < e1 ∧ e1 ≤ wr.heap.size ∧ apE wr l e1 wr.heap.size w.heap.size 0) := by
        obtain ⟨B, h0, h1, h2, h3⟩ := HR.out
        have hle : ∀ {i k : Nat}, i ≤ k → k ≤ l.length → B i ≤ B k := rise_le h1
        refine ⟨B 0, h0, Nat.le_trans (hle (Nat.zero_le _) (Nat.le_refl _)) h2, ?_⟩
        have E := apE_mk (w := wr) (l := l) (b := w.heap.size) (o := 0) B h1 (fun i hi => by
          obtain ⟨cs, r, _, ha⟩ := h3 i hi hi
          exact ⟨cs, by rw [Nat.zero_add]; exact r, ha⟩)
        exact apE_wide E h2
      clear HR
      go_wp2_with fail
      go_ret
      obtain ⟨e1, f1, f2, f3⟩ := HF.out
      exact ⟨e1, rfl, f1, f2, f3, HK.out, bj⟩
end Go.Proofs.YthgfomblodhoaaaDoor
